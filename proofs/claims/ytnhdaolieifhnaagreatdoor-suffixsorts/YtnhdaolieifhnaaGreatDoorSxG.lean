/- What strings.HasPrefix, the closures of Find of package suffix, and sort.Search answer. -/
import Derived.Test.YtnhdaolieifhnaaGreatDoorSxF
import Derived.BigQuiet
namespace Go.Proofs.YtnhdaolieifhnaaGreatDoor.sx
set_option linter.unusedVariables false
open Go.ChangeShapes Go.WideShapes Go.ChangeAt Go.RowKit
open mem rows fd

/-- A text begins with another one. -/
def pre (a p : ByteArray) : Bool := decide (p.size ≤ a.size) && ((a.extract 0 p.size).toList == p.toList)
theorem prefix_at (a p : ByteArray) (w : World) (ha : a.size ≤ 4000) : Calls Tryz.prog 40 #[.string a, .string p] w fun e w' => e = .returned (.bool (pre a p)) ∧ w' = w := by
  unfold pre
  by_cases h : p.size ≤ a.size
  · have d1 : decide ((p.size : Int) ≤ (a.size : Int)) = true := decide_eq_true (by omega)
    have d2 : decide (p.size ≤ a.size) = true := decide_eq_true h
    rw [d2, Bool.true_and]
    generalize hb : ((a.extract 0 p.size).toList == p.toList) = b
    go_enter Tryz.func40, Tryz.ntmps40
    go_wp2
    go_ret
    exact ⟨ret_bool (by first | exact hb | rfl), rfl⟩
  · have d1 : decide ((p.size : Int) ≤ (a.size : Int)) = false := decide_eq_false (by omega)
    have d2 : decide (p.size ≤ a.size) = false := decide_eq_false h
    rw [d2, Bool.false_and]
    go_enter Tryz.func40, Tryz.ntmps40
    go_wp2
    go_ret
    exact ⟨rfl, rfl⟩
theorem HasPrefix_at (a p : ByteArray) (w : World) (ha : a.size ≤ 4000) : Calls Tryz.prog 26 #[.string a, .string p] w fun e w' => e = .returned (.bool (pre a p)) ∧ w' = w := by
  have c := fun w => prefix_at a p w ha
  generalize pre a p = b at *
  go_enter Tryz.func26, Tryz.ntmps26
  go_wp2_with (go_at_call 40; refine (c _).mono ?_; rintro e w' ⟨rfl, rfl⟩)
  go_ret
  exact ⟨rfl, rfl⟩
theorem pre_iff (s p : ByteArray) (x : Nat) (hx : x ≤ s.size) (h0 : 0 < p.size) : pre (s.extract x s.size) p = true ↔ begins s p x := by
  unfold pre
  rw [Bool.and_eq_true, decide_eq_true_eq, beq_iff_eq, size_end]
  constructor
  · rintro ⟨h1, h2⟩ t ht
    have h3 : gl ((s.extract x s.size).extract 0 p.size).toList t = gl p.toList t := by rw [h2]
    rw [gl_text, gl_text, if_pos (by rw [ByteArray.size_extract, size_end]; omega), if_pos ht, sb_head _ _ _ (by rw [size_end]; omega) ht, sb_end _ _ _ (by omega)] at h3
    rw [gs_at _ _ (by omega)]
    exact h3
  · intro h
    obtain ⟨h1, h2⟩ := (begins_iff h0).1 h
    refine ⟨by omega, toList_inj (by rw [ByteArray.size_extract, size_end]; omega) fun t ht => ?_⟩
    have ht' : t < p.size := by rw [ByteArray.size_extract, size_end] at ht; omega
    rw [sb_head _ _ _ (by rw [size_end]; omega) ht', sb_end _ _ _ (by omega)]
    have := h t ht'
    rw [gs_at _ _ (by omega)] at this
    omega
/-- What the closures look at: a text, where its ends begin, and a pattern. -/
structure Cap (w : World) (X O Y : Nat) (s p : ByteArray) (v : Value) : Prop where
  s : w.cell? ⟨X, 0, none⟩ = some (.string s)
  o : w.cell? ⟨O, 0, none⟩ = some v
  p : w.cell? ⟨Y, 0, none⟩ = some (.string p)
set_option maxRecDepth 10000 in
theorem find1_at (s p : ByteArray) (X O Y A off n c k x : Nat) (w : World) (hs : s.size ≤ 4000) (h : Cap w X O Y s p (.slice (some ⟨A, off, none⟩) n c)) (hk : k < n) (hn : n ≤ 4000) (hc : w.cell? ⟨A, off + k, none⟩ = some (.int .i64 (x : Int))) (hx : x ≤ s.size) :
    Calls Tryz.prog 24 #[.int .i64 (k : Int), .pointer (some ⟨X, 0, none⟩), .pointer (some ⟨O, 0, none⟩), .pointer (some ⟨Y, 0, none⟩)] w fun e w' => e = .returned (.bool (!below s p x)) ∧ Dr w w' := by
  obtain ⟨h1, h2, h3⟩ := h
  have hb : Op.bytesLess (s.extract x s.size).toList p.toList = below s p x := rfl
  generalize below s p x = b at *
  have i1 : 0 ≤ (k : Int) ∧ (k : Int) < (n : Int) := by omega
  go_enter Tryz.func24, Tryz.ntmps24
  go_wp2
  go_quiet (fail)
  go_wp2
  go_ret
  exact ⟨rfl, Dr.drewN _ (Dr.refl w)⟩
set_option maxRecDepth 10000 in
theorem find2_at (s p : ByteArray) (X O Y A off n c k x : Nat) (w : World) (hs : s.size ≤ 4000) (h : Cap w X O Y s p (.slice (some ⟨A, off, none⟩) n c)) (hk : k < n) (hn : n ≤ 4000) (hc : w.cell? ⟨A, off + k, none⟩ = some (.int .i64 (x : Int))) (hx : x ≤ s.size) :
    Calls Tryz.prog 25 #[.int .i64 (k : Int), .pointer (some ⟨X, 0, none⟩), .pointer (some ⟨O, 0, none⟩), .pointer (some ⟨Y, 0, none⟩)] w fun e w' => e = .returned (.bool (!pre (s.extract x s.size) p)) ∧ Dr w w' := by
  obtain ⟨h1, h2, h3⟩ := h
  have cP := fun w => HasPrefix_at (s.extract x s.size) p w (by rw [size_end]; omega)
  generalize pre (s.extract x s.size) p = b at *
  have i1 : 0 ≤ (k : Int) ∧ (k : Int) < (n : Int) := by omega
  go_enter Tryz.func25, Tryz.ntmps25
  go_wp2
  go_quiet ((go_at_call 26; exact Calls.quiet_of_same (cP _)))
  go_wp2
  go_ret
  exact ⟨rfl, Dr.drewN _ (Dr.refl w)⟩
theorem _root_.Go.Proofs.YtnhdaolieifhnaaGreatDoor.mem.Dr.trans {a b c : World} (h : Dr a b) (k : Dr b c) : Dr a c := by
  obtain ⟨q, rfl⟩ := k
  exact h.drewN q
set_option maxRecDepth 10000 in
/-- sort.Search, by a closure that tells q. -/
theorem search1_at (q : Nat → Bool) (X O Y n : Nat) (w : World) (hn : n ≤ 4000) (hq : ∀ i j, i ≤ j → j < n → q i = true → q j = true)
    (hc : ∀ k, k < n → ∀ W, Dr w W → Calls Tryz.prog 24 #[.int .i64 (k : Int), .pointer (some ⟨X, 0, none⟩), .pointer (some ⟨O, 0, none⟩), .pointer (some ⟨Y, 0, none⟩)] W fun e w' => e = .returned (.bool (q k)) ∧ Dr W w') :
    Calls Tryz.prog 23 #[.int .i64 (n : Int), .func (.func 24) #[] #[.pointer (some ⟨X, 0, none⟩), .pointer (some ⟨O, 0, none⟩), .pointer (some ⟨Y, 0, none⟩)]] w fun e w' =>
      ∃ k : Nat, e = .returned (.int .i64 (k : Int)) ∧ k ≤ n ∧ (∀ i, i < k → q i = false) ∧ (∀ i, k ≤ i → i < n → q i = true) ∧ Dr w w' := by
  have HQ : Hid (∀ i j, i ≤ j → j < n → q i = true → q j = true) := hq
  have HC : Hid (∀ k, k < n → ∀ W, Dr w W → Calls Tryz.prog 24 #[.int .i64 (k : Int), .pointer (some ⟨X, 0, none⟩), .pointer (some ⟨O, 0, none⟩), .pointer (some ⟨Y, 0, none⟩)] W fun e w' => e = .returned (.bool (q k)) ∧ Dr W w') := hc
  clear hq hc
  go_enter Tryz.func23, Tryz.ntmps23
  go_wp2
  go_loopw [5, 6] (fun iv jv wr => ∃ i j : Nat, i ≤ j ∧ j ≤ n ∧ iv = .int .i64 (i : Int) ∧ jv = .int .i64 (j : Int) ∧ Hid (∀ t, t < i → q t = false) ∧ Hid (∀ t, j ≤ t → t < n → q t = true) ∧ Dr w wr) (fun iv jv _ => (intOf jv).toNat - (intOf iv).toNat)
  case atStart => exact ⟨0, n, Nat.zero_le _, Nat.le_refl _, rfl, rfl, fun t ht => absurd ht (Nat.not_lt_zero _), fun t h1 h2 => absurd h2 (by omega), Dr.refl _⟩
  case round =>
    obtain ⟨i, j, hij, hjn, rfl, rfl, H1, H2, hd⟩ := hrel
    by_cases hlt : i < j
    · have hlz : (i : Int) < (j : Int) := by omega
      obtain ⟨m, hm⟩ : ∃ m : Nat, m = i + j := ⟨_, rfl⟩
      obtain ⟨h, hh⟩ : ∃ h : Nat, h = m / 2 := ⟨_, rfl⟩
      have e1 : (i : Int) + (j : Int) = (m : Int) := by omega
      have e2 : (m : Int) / 2 = (h : Int) := by omega
      have b1 : i ≤ h := by omega
      have b2 : h < j := by omega
      have hm8 : m ≤ 8000 := by omega
      have cC := HC.out h (by omega) wr hd
      clear hm hh
      cases hqh : q h with
      | false =>
        rw [hqh] at cC
        have H3 : Hid (∀ t, t < h + 1 → q t = false) := fun t ht => by
          cases e : q t with
          | false => rfl
          | true => have := HQ.out t h (by omega) (by omega) e; rw [hqh] at this; exact this.symm
        clear hqh
        go_wp2_with (fail)
        refine cC.mono ?_
        rintro e w2 ⟨rfl, hd2⟩
        have hd3 : Dr w w2 := hd.trans hd2
        clear cC
        go_wp2
        go_roundw
        case rel => exact ⟨h + 1, j, by omega, hjn, by go_num, rfl, H3, H2, hd3⟩
        case measure => simp [intOf]; omega
      | true =>
        rw [hqh] at cC
        have H3 : Hid (∀ t, h ≤ t → t < n → q t = true) := fun t h1 h2 => HQ.out h t h1 h2 hqh
        clear hqh
        go_wp2_with (fail)
        refine cC.mono ?_
        rintro e w2 ⟨rfl, hd2⟩
        have hd3 : Dr w w2 := hd.trans hd2
        clear cC
        go_wp2
        go_roundw
        case rel => exact ⟨i, h, b1, by omega, rfl, rfl, H1, H3, hd3⟩
        case measure => simp [intOf]; omega
    · have hnl : ¬ (i : Int) < (j : Int) := by omega
      go_wp2
      go_ret
      exact ⟨i, rfl, by omega, H1.out, fun t h1 h2 => H2.out t (by omega) h2, hd⟩
set_option maxRecDepth 10000 in
/-- sort.Search, by a closure that tells q. -/
theorem search2_at (q : Nat → Bool) (X O Y n : Nat) (w : World) (hn : n ≤ 4000) (hq : ∀ i j, i ≤ j → j < n → q i = true → q j = true)
    (hc : ∀ k, k < n → ∀ W, Dr w W → Calls Tryz.prog 25 #[.int .i64 (k : Int), .pointer (some ⟨X, 0, none⟩), .pointer (some ⟨O, 0, none⟩), .pointer (some ⟨Y, 0, none⟩)] W fun e w' => e = .returned (.bool (q k)) ∧ Dr W w') :
    Calls Tryz.prog 23 #[.int .i64 (n : Int), .func (.func 25) #[] #[.pointer (some ⟨X, 0, none⟩), .pointer (some ⟨O, 0, none⟩), .pointer (some ⟨Y, 0, none⟩)]] w fun e w' =>
      ∃ k : Nat, e = .returned (.int .i64 (k : Int)) ∧ k ≤ n ∧ (∀ i, i < k → q i = false) ∧ (∀ i, k ≤ i → i < n → q i = true) ∧ Dr w w' := by
  have HQ : Hid (∀ i j, i ≤ j → j < n → q i = true → q j = true) := hq
  have HC : Hid (∀ k, k < n → ∀ W, Dr w W → Calls Tryz.prog 25 #[.int .i64 (k : Int), .pointer (some ⟨X, 0, none⟩), .pointer (some ⟨O, 0, none⟩), .pointer (some ⟨Y, 0, none⟩)] W fun e w' => e = .returned (.bool (q k)) ∧ Dr W w') := hc
  clear hq hc
  go_enter Tryz.func23, Tryz.ntmps23
  go_wp2
  go_loopw [5, 6] (fun iv jv wr => ∃ i j : Nat, i ≤ j ∧ j ≤ n ∧ iv = .int .i64 (i : Int) ∧ jv = .int .i64 (j : Int) ∧ Hid (∀ t, t < i → q t = false) ∧ Hid (∀ t, j ≤ t → t < n → q t = true) ∧ Dr w wr) (fun iv jv _ => (intOf jv).toNat - (intOf iv).toNat)
  case atStart => exact ⟨0, n, Nat.zero_le _, Nat.le_refl _, rfl, rfl, fun t ht => absurd ht (Nat.not_lt_zero _), fun t h1 h2 => absurd h2 (by omega), Dr.refl _⟩
  case round =>
    obtain ⟨i, j, hij, hjn, rfl, rfl, H1, H2, hd⟩ := hrel
    by_cases hlt : i < j
    · have hlz : (i : Int) < (j : Int) := by omega
      obtain ⟨m, hm⟩ : ∃ m : Nat, m = i + j := ⟨_, rfl⟩
      obtain ⟨h, hh⟩ : ∃ h : Nat, h = m / 2 := ⟨_, rfl⟩
      have e1 : (i : Int) + (j : Int) = (m : Int) := by omega
      have e2 : (m : Int) / 2 = (h : Int) := by omega
      have b1 : i ≤ h := by omega
      have b2 : h < j := by omega
      have hm8 : m ≤ 8000 := by omega
      have cC := HC.out h (by omega) wr hd
      clear hm hh
      cases hqh : q h with
      | false =>
        rw [hqh] at cC
        have H3 : Hid (∀ t, t < h + 1 → q t = false) := fun t ht => by
          cases e : q t with
          | false => rfl
          | true => have := HQ.out t h (by omega) (by omega) e; rw [hqh] at this; exact this.symm
        clear hqh
        go_wp2_with (fail)
        refine cC.mono ?_
        rintro e w2 ⟨rfl, hd2⟩
        have hd3 : Dr w w2 := hd.trans hd2
        clear cC
        go_wp2
        go_roundw
        case rel => exact ⟨h + 1, j, by omega, hjn, by go_num, rfl, H3, H2, hd3⟩
        case measure => simp [intOf]; omega
      | true =>
        rw [hqh] at cC
        have H3 : Hid (∀ t, h ≤ t → t < n → q t = true) := fun t h1 h2 => HQ.out h t h1 h2 hqh
        clear hqh
        go_wp2_with (fail)
        refine cC.mono ?_
        rintro e w2 ⟨rfl, hd2⟩
        have hd3 : Dr w w2 := hd.trans hd2
        clear cC
        go_wp2
        go_roundw
        case rel => exact ⟨i, h, b1, by omega, rfl, rfl, H1, H3, hd3⟩
        case measure => simp [intOf]; omega
    · have hnl : ¬ (i : Int) < (j : Int) := by omega
      go_wp2
      go_ret
      exact ⟨i, rfl, by omega, H1.out, fun t h1 h2 => H2.out t (by omega) h2, hd⟩
end Go.Proofs.YtnhdaolieifhnaaGreatDoor.sx
