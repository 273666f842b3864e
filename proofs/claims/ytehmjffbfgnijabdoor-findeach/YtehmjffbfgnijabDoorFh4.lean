/- Pure: where any of several patterns stand, by rising places, then by which one. -/
import Derived.Test.YtehmjffbfgnijabDoorFg5
import Derived.Test.YtehmjffbfgnijabDoorFh1
namespace Go.Proofs.YtehmjffbfgnijabDoor.anyp
set_option linter.unusedVariables false
open rows fd tree sp

/-- Where pattern k stands so that it ends with this many bytes. -/
def Ends (s : ByteArray) (ps : List ByteArray) (k n : Nat) : Prop := En (sb (ps.getD k .empty)) (sb s) (ps.getD k .empty).size n
theorem suf_en (p s : ByteArray) (n : Nat) : pt p <:+ (List.range n).map (sb s) ↔ En (sb p) (sb s) p.size n := by
  rw [List.suffix_iff_eq_drop, pt_len, List.length_map, List.length_range]
  constructor
  · intro h
    have hl := congrArg List.length h
    rw [pt_len, List.length_drop, List.length_map, List.length_range] at hl
    refine ⟨by omega, fun j hj => ?_⟩
    have hg := congrArg (fun l => l[j]?) h
    simp only [pt, List.getElem?_drop, List.getElem?_map] at hg
    rw [List.getElem?_range hj, List.getElem?_range (by omega)] at hg
    simpa using hg
  · rintro ⟨h1, h2⟩
    apply List.ext_getElem?
    intro j
    simp only [pt, List.getElem?_drop, List.getElem?_map]
    by_cases hj : j < p.size
    · rw [List.getElem?_range hj, List.getElem?_range (by omega)]
      simp [h2 j hj]
    · rw [List.getElem?_eq_none (by simp; omega), List.getElem?_eq_none (by simp; omega)]
      rfl
/-- What the tree tells of a place is where the patterns end. -/
theorem bit_ends {s : ByteArray} {ps : List ByteArray} {tx : Nat → List Int} {m n at_ : Nat} {W : Nat → Nat} (hl : LS tx m ((List.range n).map (sb s)) at_)
    (h1 : ∀ k, k < ps.length → ∃ j, j < m ∧ tx j = pt (ps.getD k .empty)) (h2 : ∀ j, j < m → W j < 18446744073709551616 ∧ ∀ k, (W j).testBit k = true ↔ k < ps.length ∧ pt (ps.getD k .empty) <:+ tx j) :
    W at_ < 18446744073709551616 ∧ ∀ k, (W at_).testBit k = true ↔ k < ps.length ∧ Ends s ps k n := by
  refine ⟨(h2 _ hl.lt).1, fun k => ?_⟩
  rw [(h2 _ hl.lt).2 k]
  unfold Ends
  rw [← suf_en]
  constructor
  · rintro ⟨hk, h⟩
    exact ⟨hk, h.trans hl.suf⟩
  · rintro ⟨hk, h⟩
    refine ⟨hk, ?_⟩
    obtain ⟨j, hj, e⟩ := h1 k hk
    rw [← e] at h ⊢
    exact suf_of_len h hl.suf (hl.longest j hj h)
/-- What was met of a text's first bytes. -/
structure Has (s : ByteArray) (ps : List ByteArray) (i j : Nat) (l : List (Int × Int)) : Prop where
  nodup : l.Nodup
  mem : ∀ x, x ∈ l ↔ ∃ n k : Nat, (n ≤ i ∨ (n = i + 1 ∧ k < j)) ∧ k < ps.length ∧ Ends s ps k n ∧ x = (((n - (ps.getD k .empty).size : Nat) : Int), (k : Int))
  len : l.length ≤ i * 64 + j
theorem Has.start (s : ByteArray) (ps : List ByteArray) (hp : ∀ k, k < ps.length → 0 < (ps.getD k .empty).size) : Has s ps 0 0 [] := by
  refine ⟨List.nodup_nil, fun x => ⟨fun h => (by cases h), ?_⟩, by simp⟩
  rintro ⟨n, k, h1, h2, h3, _⟩
  have := h3.1
  have := hp k h2
  omega
theorem Has.add {s : ByteArray} {ps : List ByteArray} {i j k : Nat} {l : List (Int × Int)} (h : Has s ps i j l) (hj : j ≤ k) (hk : k < ps.length) (he : Ends s ps k (i + 1)) (hno : ∀ q, j ≤ q → q < k → q < ps.length → ¬ Ends s ps q (i + 1)) :
    Has s ps i (k + 1) (l ++ [(((i + 1 - (ps.getD k .empty).size : Nat) : Int), (k : Int))]) := by
  refine ⟨?_, fun x => ?_, ?_⟩
  · rw [List.nodup_append]
    refine ⟨h.nodup, List.nodup_cons.2 ⟨by simp, List.nodup_nil⟩, fun a ha b hb e => ?_⟩
    rw [List.mem_singleton] at hb
    subst hb
    subst e
    obtain ⟨n, q, h1, h2, h3, h4⟩ := (h.mem _).1 ha
    injection h4 with h5 h6
    have e : k = q := by omega
    subst e
    have := h3.1
    have := he.1
    omega
  · rw [List.mem_append, List.mem_singleton, h.mem]
    constructor
    · rintro (⟨n, q, h1, h2, h3, h4⟩ | rfl)
      · exact ⟨n, q, by omega, h2, h3, h4⟩
      · exact ⟨i + 1, k, by omega, hk, he, rfl⟩
    · rintro ⟨n, q, h1, h2, h3, rfl⟩
      rcases h1 with h1 | ⟨rfl, h1⟩
      · exact Or.inl ⟨n, q, Or.inl h1, h2, h3, rfl⟩
      · rcases Nat.lt_or_ge q j with h4 | h4
        · exact Or.inl ⟨_, q, Or.inr ⟨rfl, h4⟩, h2, h3, rfl⟩
        · rcases Nat.lt_or_ge q k with h5 | h5
          · exact absurd h3 (hno q h4 h5 h2)
          · have : q = k := by omega
            subst this
            exact Or.inr rfl
  · have := h.len
    rw [List.length_append]
    simp only [List.length_cons, List.length_nil]
    omega
theorem Has.round {s : ByteArray} {ps : List ByteArray} {i j : Nat} {l : List (Int × Int)} (h : Has s ps i j l) (hj : j ≤ 64) (hno : ∀ q, j ≤ q → q < ps.length → ¬ Ends s ps q (i + 1)) : Has s ps (i + 1) 0 l := by
  refine ⟨h.nodup, fun x => ?_, ?_⟩
  · rw [h.mem]
    constructor
    · rintro ⟨n, q, h1, h2, h3, h4⟩
      exact ⟨n, q, by omega, h2, h3, h4⟩
    · rintro ⟨n, q, h1, h2, h3, h4⟩
      refine ⟨n, q, ?_, h2, h3, h4⟩
      rcases h1 with h1 | h1
      · rcases Nat.lt_or_ge n (i + 1) with h5 | h5
        · exact Or.inl (by omega)
        · have e : n = i + 1 := by omega
          subst e
          rcases Nat.lt_or_ge q j with h6 | h6
          · exact Or.inr ⟨rfl, h6⟩
          · exact absurd h3 (hno q h6 h2)
      · omega
  · have := h.len
    omega
/-- All matches, in their order. -/
structure IsAny (s : ByteArray) (ps : List ByteArray) (l : List (Int × Int)) : Prop where
  rises : l.Pairwise lt2
  mem : ∀ x, x ∈ l ↔ ∃ a k : Nat, k < ps.length ∧ a + (ps.getD k .empty).size ≤ s.size ∧ St (sb (ps.getD k .empty)) (sb s) (ps.getD k .empty).size a = true ∧ x = ((a : Int), (k : Int))
theorem Has.sorted {s : ByteArray} {ps : List ByteArray} {l l' : List (Int × Int)} (h : Has s ps s.size 0 l) (hp : l'.Perm l) (hs : l'.Pairwise fun x y => ¬ lt2 y x) : IsAny s ps l' := by
  refine ⟨?_, fun x => ?_⟩
  · have hn : l'.Nodup := hp.nodup_iff.2 h.nodup
    refine List.Pairwise.imp₂ (R := fun x y => ¬ lt2 y x) (S := (· ≠ ·)) (fun a b h1 h2 => ?_) hs hn
    unfold lt2 at *
    rcases Classical.em (a.1 = b.1) with e | e
    · have : a.2 ≠ b.2 := fun e2 => h2 (Prod.ext e e2)
      omega
    · omega
  · rw [hp.mem_iff, h.mem]
    constructor
    · rintro ⟨n, k, h1, h2, h3, rfl⟩
      have h4 := h3.1
      refine ⟨n - (ps.getD k .empty).size, k, h2, by omega, ?_, rfl⟩
      rw [St.en, show n - (ps.getD k .empty).size + (ps.getD k .empty).size = n by omega]
      exact decide_eq_true h3
    · rintro ⟨a, k, h2, h4, h3, rfl⟩
      rw [St.en] at h3
      have h5 := of_decide_eq_true h3
      exact ⟨a + (ps.getD k .empty).size, k, Or.inl h4, h2, h5, by rw [Nat.add_sub_cancel]⟩
theorem lt2_irrefl (x : Int × Int) : ¬ lt2 x x := by unfold lt2; omega
theorem lt2_asymm {x y : Int × Int} (h : lt2 x y) : ¬ lt2 y x := by unfold lt2 at *; omega
theorem rising_same2 : ∀ (a b : List (Int × Int)), a.Pairwise lt2 → b.Pairwise lt2 → (∀ x, x ∈ a ↔ x ∈ b) → a = b
  | [], [], _, _, _ => rfl
  | [], y :: b, _, _, h => absurd ((h y).2 (List.mem_cons_self ..)) (by simp)
  | x :: a, [], _, _, h => absurd ((h x).1 (List.mem_cons_self ..)) (by simp)
  | x :: a, y :: b, ha, hb, h => by
    obtain ⟨ha1, ha2⟩ := List.pairwise_cons.1 ha
    obtain ⟨hb1, hb2⟩ := List.pairwise_cons.1 hb
    have hxy : x = y := by
      have h1 := (h x).1 (List.mem_cons_self ..)
      have h2 := (h y).2 (List.mem_cons_self ..)
      rcases List.mem_cons.1 h1 with h1 | h1
      · exact h1
      · rcases List.mem_cons.1 h2 with h2 | h2
        · exact h2.symm
        · exact absurd (ha1 y h2) (lt2_asymm (hb1 x h1))
    subst hxy
    rw [rising_same2 a b ha2 hb2 fun z => ?_]
    have hz := h z
    simp only [List.mem_cons] at hz
    constructor
    · intro h1
      have := ha1 z h1
      rcases hz.1 (Or.inr h1) with h2 | h2
      · subst h2; exact absurd this (lt2_irrefl _)
      · exact h2
    · intro h1
      have := hb1 z h1
      rcases hz.2 (Or.inr h1) with h2 | h2
      · subst h2; exact absurd this (lt2_irrefl _)
      · exact h2
theorem IsAny.same {s : ByteArray} {ps : List ByteArray} {a b : List (Int × Int)} (h : IsAny s ps a) (k : IsAny s ps b) : a = b :=
  rising_same2 a b h.rises k.rises fun x => by rw [h.mem, k.mem]
end Go.Proofs.YtehmjffbfgnijabDoor.anyp
