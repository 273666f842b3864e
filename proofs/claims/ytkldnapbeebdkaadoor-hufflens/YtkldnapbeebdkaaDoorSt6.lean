/- Groups in a row: sorted, like ones as they stood. -/
import Derived.Test.YtkldnapbeebdkaaDoorSt5
namespace Go.Proofs.YtkldnapbeebdkaaDoor.st
set_option linter.unusedVariables false
open Go.Shelf Go.RowKit Go.Lib Go.Sort
open mem
theorem symMerge_at (T : Gv × Nat → Gv × Nat → Bool) (hO : SWO T) (blk off cap : Nat) (d0 : Array (Gv × Nat)) (w0 : World) (R : R2 w0 blk off d0) (hsz : d0.size < 4611686018427387904) : ∀ (N a m b : Nat) (d : Array (Gv × Nat)) (w : World), b - a ≤ N → d0.size = d.size → S2 w0 blk off d w → a < m → m < b → b ≤ d.size → SortedIn T a m d → SortedIn T m b d → Fair (ltOf cf) T a m b d →
    Calls Tryd.prog 53 #[.slice (some ⟨blk, off, none⟩) d.size cap, .int .i64 a, .int .i64 m, .int .i64 b, fnv] w fun e w' => e = .returned (.tuple #[]) ∧ ∃ d', PermIn a b d d' ∧ SortedIn T a b d' ∧ S2 w0 blk off d' w'
  | 0, a, m, b, d, w, hN, hs, S, ham, hmb, hb, hl, hr, hf => by omega
  | N + 1, a, m, b, d, w, hN, hs, S, ham, hmb, hb, hl, hr, hf => by
    by_cases h1 : m = a + 1
    · subst h1
      have := sym_left T hO blk off cap a b d0 d w0 w R hs S hmb hb (by omega) hr hf
      rwa [show (a : Int) + 1 = ((a + 1 : Nat) : Int) by omega] at this
    · by_cases h2 : b = m + 1
      · subst h2
        have := sym_right T hO blk off cap a m d0 d w0 w R hs S (by omega) hb (by omega) hl hf
        rwa [show (m : Int) + 1 = ((m + 1 : Nat) : Int) by omega] at this
      · by_cases hm : (a + b) / 2 < m
        · exact sym_a T hO blk off cap a m b d0 d w0 w R hs S (by omega) (by omega) hb (by omega) hl hr hf hm (fun a' m' b' d' w' h => symMerge_at T hO blk off cap d0 w0 R hsz N a' m' b' d' w' (by omega))
        · exact sym_b T hO blk off cap a m b d0 d w0 w R hs S (by omega) (by omega) hb (by omega) hl hr hf hm (fun a' m' b' d' w' h => symMerge_at T hO blk off cap d0 w0 R hsz N a' m' b' d' w' (by omega))
/-! ### Blocks -/
/-- Elements are told apart by their tags, which stand in rising order at first: the order by number, then by tag. -/
def T (x y : Gv × Nat) : Bool := decide (x.1.1 < y.1.1 ∨ (x.1.1 = y.1.1 ∧ x.2 < y.2))
theorem T_iff (x y : Gv × Nat) : T x y = true ↔ (x.1.1 < y.1.1 ∨ (x.1.1 = y.1.1 ∧ x.2 < y.2)) := decide_eq_true_iff
theorem T_not (x y : Gv × Nat) : T x y = false ↔ ¬ (x.1.1 < y.1.1 ∨ (x.1.1 = y.1.1 ∧ x.2 < y.2)) := decide_eq_false_iff_not
theorem swoT : SWO T where
  irrefl x := by rw [T_not]; omega
  trans x y z h1 h2 := by rw [T_iff] at *; omega
  ntrans x y z h1 h2 := by rw [T_not] at *; omega
theorem fair_of {a m b : Nat} {d : Array (Gv × Nat)} (h : ∀ i j, a ≤ i → i < m → m ≤ j → j < b → d[i]!.2 < d[j]!.2) : Fair (ltOf cf) T a m b d := by
  intro i j h1 h2 h3 h4
  have := h i j h1 h2 h3 h4
  rw [lt_is]
  by_cases hlt : d[j]!.1.1 < d[i]!.1.1
  · rw [(T_iff _ _).2 (Or.inl hlt), decide_eq_true hlt]
  · rw [(T_not _ _).2 (by omega), decide_eq_false hlt]
/-- Blocks of s elements: each is sorted (from block lo on: halves alone), and its tags are its own places. -/
def Bk (s : Nat) (n : Nat) (d : Array (Gv × Nat)) : Prop := ∀ i j, i < j → j < n → i / s = j / s → T d[j]! d[i]! = false
def Tg (s : Nat) (n : Nat) (d : Array (Gv × Nat)) : Prop := ∀ i, i < n → d[i]!.2 / s = i / s
theorem Tg.fair {s n q b : Nat} {d : Array (Gv × Nat)} (h : Tg s n d) (hs : 0 < s) (hb : b ≤ n) (hb2 : b ≤ q * s + 2 * s) : Fair (ltOf cf) T (q * s) (q * s + s) b d := by
  refine fair_of fun i j h1 h2 h3 h4 => ?_
  have hi := h i (by omega)
  have hj := h j (by omega)
  have e1 : i / s < q + 1 := by rw [Nat.div_lt_iff_lt_mul hs, Nat.add_mul]; omega
  have e2 : q + 1 ≤ j / s := by rw [Nat.le_div_iff_mul_le hs, Nat.add_mul]; omega
  rcases Nat.lt_or_ge d[i]!.2 d[j]!.2 with h | h
  · exact h
  · have := Nat.div_le_div_right (c := s) h
    omega
theorem tg_perm {s n a b : Nat} {d d' : Array (Gv × Nat)} (h : Tg s n d) (hn : n ≤ d.size) (hbn : b ≤ n) (hp : PermIn a b d d') (hq : ∀ i j, a ≤ i → i < b → a ≤ j → j < b → i / s = j / s) : Tg s n d' := by
  intro i hi
  by_cases hin : a ≤ i ∧ i < b
  · exact permIn_all d d' a b (fun z => z.2 / s = i / s) (by omega) hp (fun j h1 h2 => by rw [h j (by omega)]; exact hq j i h1 h2 hin.1 hin.2) i hin.1 hin.2
  · rw [hp.2.1 i (by omega)]; exact h i hi
theorem Tg.dbl {s n : Nat} {d : Array (Gv × Nat)} (h : Tg s n d) : Tg (s * 2) n d := by
  intro i hi
  have := h i hi
  rw [← Nat.div_div_eq_div_mul, ← Nat.div_div_eq_div_mul, this]
/-- Half way: blocks of twice as many elements are sorted before place a = q * (2 * s). -/
def Hw (s q n : Nat) (d : Array (Gv × Nat)) : Prop := Tg (s * 2) n d ∧ (∀ i j, i < j → j < n → j < q * (s * 2) → i / (s * 2) = j / (s * 2) → T d[j]! d[i]! = false) ∧ (∀ i, q * (s * 2) ≤ i → i < n → d[i]!.2 / s = i / s) ∧ (∀ i j, q * (s * 2) ≤ i → i < j → j < n → i / s = j / s → T d[j]! d[i]! = false)
theorem Hw.start {s n : Nat} {d : Array (Gv × Nat)} (h1 : Bk s n d) (h2 : Tg s n d) : Hw s 0 n d := ⟨h2.dbl, fun i j _ _ h => by omega, fun i _ h => h2 i h, fun i j _ h h3 h4 => h1 i j h h3 h4⟩
theorem in_block {s q i : Nat} (hs : 0 < s) (h1 : q * s ≤ i) (h2 : i < q * s + s) : i / s = q := by
  refine Nat.div_eq_of_lt_le (by omega) (by rw [Nat.add_mul]; omega)
theorem Hw.pre {s q n b : Nat} {d : Array (Gv × Nat)} (h : Hw s q n d) (hs : 0 < s) (hb : b ≤ n) (hb2 : b ≤ q * (s * 2) + s * 2) (hm : q * (s * 2) + s < b) : SortedIn T (q * (s * 2)) (q * (s * 2) + s) d ∧ SortedIn T (q * (s * 2) + s) b d ∧ Fair (ltOf cf) T (q * (s * 2)) (q * (s * 2) + s) b d := by
  have e : q * (s * 2) = (2 * q) * s := by rw [Nat.mul_comm s 2, ← Nat.mul_assoc, Nat.mul_comm q 2]
  refine ⟨fun i j h1 h2 h3 => h.2.2.2 i j h1 h2 (by omega) ?_, fun i j h1 h2 h3 => h.2.2.2 i j (by omega) h2 (by omega) ?_, fair_of fun i j h1 h2 h3 h4 => ?_⟩
  · rw [in_block hs (q := 2 * q) (by omega) (by omega), in_block hs (q := 2 * q) (by omega) (by omega)]
  · rw [in_block hs (q := 2 * q + 1) (by rw [Nat.add_mul]; omega) (by rw [Nat.add_mul]; omega), in_block hs (q := 2 * q + 1) (by rw [Nat.add_mul]; omega) (by rw [Nat.add_mul]; omega)]
  · have hi := h.2.2.1 i h1 (by omega)
    have hj := h.2.2.1 j (by omega) (by omega)
    have ei : i / s = 2 * q := in_block hs (by omega) (by omega)
    have ej : j / s = 2 * q + 1 := in_block hs (by rw [Nat.add_mul]; omega) (by rw [Nat.add_mul]; omega)
    rw [ei] at hi
    rw [ej] at hj
    rcases Nat.lt_or_ge d[i]!.2 d[j]!.2 with h | h
    · exact h
    · have := Nat.div_le_div_right (c := s) h
      omega
theorem Hw.next {s q n b : Nat} {d d' : Array (Gv × Nat)} (h : Hw s q n d) (hs : 0 < s) (hn : n ≤ d.size) (hb : b ≤ n) (hb2 : b ≤ q * (s * 2) + s * 2) (hend : b = q * (s * 2) + s * 2 ∨ b = n) (hp : PermIn (q * (s * 2)) b d d') (hsd : SortedIn T (q * (s * 2)) b d') : Hw s (q + 1) n d' := by
  have hz : q * (s * 2) + s * 2 = (q + 1) * (s * 2) := by rw [Nat.add_mul]; omega
  have h2 : 0 < s * 2 := by omega
  refine ⟨tg_perm h.1 hn hb hp fun i j h1 h3 h4 h5 => ?_, fun i j hij hjn hjq hd => ?_, fun i h1 h3 => ?_, fun i j h1 h3 h4 h5 => ?_⟩
  · rw [in_block h2 (q := q) h1 (by omega), in_block h2 (q := q) h4 (by omega)]
  · by_cases hj : j < q * (s * 2)
    · rw [hp.2.1 i (by omega), hp.2.1 j (by omega)]; exact h.2.1 i j hij hjn hj hd
    · have hjb : j / (s * 2) = q := in_block h2 (by omega) (by omega)
      have hi : q * (s * 2) ≤ i := by
        have := Nat.div_mul_le_self i (s * 2)
        rw [hd, hjb] at this
        exact this
      exact hsd i j hi hij (by omega)
  · rw [hp.2.1 i (by omega)]; exact h.2.2.1 i (by omega) h3
  · rw [hp.2.1 i (by omega), hp.2.1 j (by omega)]; exact h.2.2.2 i j (by omega) h3 h4 h5
theorem Hw.done {s q n : Nat} {d : Array (Gv × Nat)} (h : Hw s q n d) (hs : 0 < s) (hq : n ≤ q * (s * 2) + s) : Bk (s * 2) n d ∧ Tg (s * 2) n d := by
  refine ⟨fun i j hij hjn hd => ?_, h.1⟩
  have h2 : 0 < s * 2 := by omega
  by_cases hj : j < q * (s * 2)
  · exact h.2.1 i j hij hjn hj hd
  · have e : q * (s * 2) = (2 * q) * s := by rw [Nat.mul_comm s 2, ← Nat.mul_assoc, Nat.mul_comm q 2]
    have hjb : j / (s * 2) = q := in_block h2 (by omega) (by omega)
    have hi : q * (s * 2) ≤ i := by
      have := Nat.div_mul_le_self i (s * 2)
      rw [hd, hjb] at this
      exact this
    refine h.2.2.2 i j hi hij hjn ?_
    rw [in_block hs (q := 2 * q) (by omega) (by omega), in_block hs (q := 2 * q) (by omega) (by omega)]
theorem Bk.all {s n : Nat} {d : Array (Gv × Nat)} (h : Bk s n d) (hs : n ≤ s) : SortedIn T 0 n d := fun i j _ hij hj => h i j hij hj (by rw [Nat.div_eq_of_lt (by omega), Nat.div_eq_of_lt (by omega)])
/-! ### The sort by inserting, by tags -/
theorem ins_same {lt T : Gv × Nat → Gv × Nat → Bool} (a : Nat) : ∀ (j : Nat) (d : Array (Gv × Nat)), j < d.size → (∀ x, a ≤ x → x < j → lt d[j]! d[x]! = T d[j]! d[x]!) → insInner lt a j d = insInner T a j d
  | 0, d, _, _ => rfl
  | j + 1, d, hj, h => by
    unfold insInner
    by_cases ha : j + 1 > a
    · have h0 := h j (by omega) (by omega)
      rw [h0]
      cases hT : T d[j + 1]! d[j]! with
      | false => simp
      | true =>
        simp only [ha, decide_true, Bool.and_self, if_true]
        refine ins_same a j (swp d (j + 1) j) (by rw [size_swp]; omega) fun x h1 h2 => ?_
        rw [swp_get d hj (by omega), swp_get d hj (by omega), if_pos rfl, if_neg (by omega), if_neg (by omega)]
        exact h x h1 (by omega)
    · simp [ha]
theorem ins_perm {lt : Gv × Nat → Gv × Nat → Bool} (a b : Nat) : ∀ (j : Nat) (d : Array (Gv × Nat)), j < b → b ≤ d.size → PermIn a b d (insInner lt a j d)
  | 0, d, _, _ => permIn_refl _ _ _
  | j + 1, d, hj, hb => by
    unfold insInner
    by_cases ha : (decide (j + 1 > a) && lt d[j + 1]! d[j]!) = true
    · rw [if_pos ha]
      have hja : a ≤ j := by
        have := (Bool.and_eq_true _ _ ▸ ha).1
        have := of_decide_eq_true this
        omega
      exact permIn_trans _ _ _ _ _ (swp_permIn d a b (j + 1) j (by omega) hj hja (by omega) hb) (ins_perm a b j _ (by omega) (by rw [size_swp]; exact hb))
    · rw [if_neg ha]; exact permIn_refl _ _ _
theorem outer_same (a b : Nat) : ∀ (k i : Nat) (d : Array (Gv × Nat)), b - i ≤ k → a ≤ i → b ≤ d.size → (∀ x, a ≤ x → x < i → d[x]!.2 < i) → (∀ x, i ≤ x → x < b → d[x]!.2 = x) → insOuter (ltOf cf) a b i d = insOuter T a b i d
  | 0, i, d, hk, _, _, _, _ => by rw [insOuter_stop _ _ _ _ _ (by omega), insOuter_stop _ _ _ _ _ (by omega)]
  | k + 1, i, d, hk, ha, hb, h1, h2 => by
    by_cases hib : i < b
    · rw [insOuter_go _ _ _ _ _ hib, insOuter_go _ _ _ _ _ hib]
      have e : insInner (ltOf cf) a i d = insInner T a i d := ins_same a i d (by omega) fun x p q =>
        (fair_of (a := a) (m := i) (b := b) (d := d) fun x y h3 h4 h5 h6 => by have := h1 x h3 h4; have := h2 y h5 h6; omega) x i p q (Nat.le_refl _) hib
      rw [e]
      have hp := ins_perm (lt := T) a (i + 1) i d (by omega) (by omega)
      refine outer_same a b k (i + 1) _ (by omega) (by omega) (by rw [hp.1]; exact hb) (fun x p q => ?_) (fun x p q => ?_)
      · refine permIn_all d _ a (i + 1) (fun z => z.2 < i + 1) (by omega) hp (fun y h3 h4 => ?_) x p q
        by_cases hy : y < i
        · have := h1 y h3 hy; omega
        · have := h2 y (by omega) (by omega); omega
      · rw [hp.2.1 x (by omega)]; exact h2 x (by omega) q
    · rw [insOuter_stop _ _ _ _ _ hib, insOuter_stop _ _ _ _ _ hib]
/-- Elements that stand as their tags tell: sorted by inserting, they are sorted by number, then by tag. -/
theorem insertion_T {a b : Nat} {d : Array (Gv × Nat)} (hab : a ≤ b) (hb : b ≤ d.size) (h : ∀ x, a ≤ x → x < b → d[x]!.2 = x) : PermIn a b d (Sort.insertionSort (ltOf cf) d a b) ∧ SortedIn T a b (Sort.insertionSort (ltOf cf) d a b) := by
  have e : Sort.insertionSort (ltOf cf) d a b = Sort.insertionSort T d a b := by
    unfold Sort.insertionSort
    by_cases hlt : a < b
    · exact outer_same a b (b - (a + 1)) (a + 1) d (Nat.le_refl _) (by omega) hb (fun x p q => by have := h x p (by omega); omega) (fun x p q => h x (by omega) q)
    · rw [insOuter_stop _ _ _ _ _ (by omega), insOuter_stop _ _ _ _ _ (by omega)]
  rw [e]
  exact insertionSort_holds swoT d a b hab hb
end Go.Proofs.YtkldnapbeebdkaaDoor.st
