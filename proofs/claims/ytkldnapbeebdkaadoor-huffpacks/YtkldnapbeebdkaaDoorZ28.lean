/- Texts laid together: Su5, Su6. -/
import Derived.Test.YtkldnapbeebdkaaDoorZ27
/- A row sorted by 'less' and 'swap': sorted, like ones as they stood: what blocks are. -/
namespace Go.Proofs.YtkldnapbeebdkaaDoor.su
set_option linter.unusedVariables false
open Go.Shelf Go.RowKit Go.Lib Go.Sort
open mem st
/-- What is sorted by a number. -/
class Key (E : Type) extends Inhabited E where
  key : E → Int
section
variable {α : Type} [Inhabited α]
theorem symMerge_at (T : α → α → Bool) (hO : SWO T) {enc : α → Value} {lt : α → α → Bool} {g : Nat} {lb : Array Value} {sf : Nat} {sb : Array Value} {w0 : World} {blk off : Nat} {d0 : Array α} (L : Ls enc lt g lb sf sb w0 blk off d0) (hsz : d0.size < 4611686018427387904) : ∀ (N a m b : Nat) (d : Array α) (w : World), b - a ≤ N → d.size = d0.size → SW enc w0 blk off d w → a < m → m < b → b ≤ d.size → SortedIn T a m d → SortedIn T m b d → st.Fair lt T a m b d →
    Calls Tryd.prog 65 #[dv g lb sf sb, .int .i64 a, .int .i64 m, .int .i64 b] w fun e w' => e = .returned (.tuple #[]) ∧ ∃ d', PermIn a b d d' ∧ SortedIn T a b d' ∧ St enc w0 blk off d' w w'
  | 0, a, m, b, d, w, hN, hs, S, ham, hmb, hb, hl, hr, hf => by omega
  | N + 1, a, m, b, d, w, hN, hs, S, ham, hmb, hb, hl, hr, hf => by
    by_cases h1 : m = a + 1
    · subst h1
      have := sym_left T hO L a b d w hs S hmb hb (by omega) hr hf
      rwa [show (a : Int) + 1 = ((a + 1 : Nat) : Int) by omega] at this
    · by_cases h2 : b = m + 1
      · subst h2
        have := sym_right T hO L a m d w hs S (by omega) hb (by omega) hl hf
        rwa [show (m : Int) + 1 = ((m + 1 : Nat) : Int) by omega] at this
      · by_cases hm : (a + b) / 2 < m
        · exact sym_a T hO L a m b d w hs S (by omega) (by omega) hb (by omega) hl hr hf hm (fun a' m' b' d' w' h => symMerge_at T hO L hsz N a' m' b' d' w' (by omega))
        · exact sym_b T hO L a m b d w hs S (by omega) (by omega) hb (by omega) hl hr hf hm (fun a' m' b' d' w' h => symMerge_at T hO L hsz N a' m' b' d' w' (by omega))
end
section
variable {E : Type} [Key E]
def ltK (x y : E × Nat) : Bool := decide (Key.key x.1 < Key.key y.1)
theorem lt_is (x y : E × Nat) : ltK x y = decide (Key.key x.1 < Key.key y.1) := rfl
/-! ### Blocks -/
/-- Elements are told apart by their tags, which stand in rising order at first: the order by number, then by tag. -/
def T (x y : E × Nat) : Bool := decide (Key.key x.1 < Key.key y.1 ∨ (Key.key x.1 = Key.key y.1 ∧ x.2 < y.2))
theorem T_iff (x y : E × Nat) : T x y = true ↔ (Key.key x.1 < Key.key y.1 ∨ (Key.key x.1 = Key.key y.1 ∧ x.2 < y.2)) := decide_eq_true_iff
theorem T_not (x y : E × Nat) : T x y = false ↔ ¬ (Key.key x.1 < Key.key y.1 ∨ (Key.key x.1 = Key.key y.1 ∧ x.2 < y.2)) := decide_eq_false_iff_not
theorem swoT : SWO (T (E := E)) where
  irrefl x := by rw [T_not]; omega
  trans x y z h1 h2 := by rw [T_iff] at *; omega
  ntrans x y z h1 h2 := by rw [T_not] at *; omega
theorem fair_of {a m b : Nat} {d : Array (E × Nat)} (h : ∀ i j, a ≤ i → i < m → m ≤ j → j < b → d[i]!.2 < d[j]!.2) : st.Fair ltK T a m b d := by
  intro i j h1 h2 h3 h4
  have := h i j h1 h2 h3 h4
  rw [lt_is]
  by_cases hlt : Key.key d[j]!.1 < Key.key d[i]!.1
  · rw [(T_iff _ _).2 (Or.inl hlt), decide_eq_true hlt]
  · rw [(T_not _ _).2 (by omega), decide_eq_false hlt]
/-- Blocks of s elements: each is sorted (from block lo on: halves alone), and its tags are its own places. -/
def Bk (s : Nat) (n : Nat) (d : Array (E × Nat)) : Prop := ∀ i j, i < j → j < n → i / s = j / s → T d[j]! d[i]! = false
def Tg (s : Nat) (n : Nat) (d : Array (E × Nat)) : Prop := ∀ i, i < n → d[i]!.2 / s = i / s
theorem Tg.fair {s n q b : Nat} {d : Array (E × Nat)} (h : Tg s n d) (hs : 0 < s) (hb : b ≤ n) (hb2 : b ≤ q * s + 2 * s) : st.Fair ltK T (q * s) (q * s + s) b d := by
  refine fair_of fun i j h1 h2 h3 h4 => ?_
  have hi := h i (by omega)
  have hj := h j (by omega)
  have e1 : i / s < q + 1 := by rw [Nat.div_lt_iff_lt_mul hs, Nat.add_mul]; omega
  have e2 : q + 1 ≤ j / s := by rw [Nat.le_div_iff_mul_le hs, Nat.add_mul]; omega
  rcases Nat.lt_or_ge d[i]!.2 d[j]!.2 with h | h
  · exact h
  · have := Nat.div_le_div_right (c := s) h
    omega
theorem tg_perm {s n a b : Nat} {d d' : Array (E × Nat)} (h : Tg s n d) (hn : n ≤ d.size) (hbn : b ≤ n) (hp : PermIn a b d d') (hq : ∀ i j, a ≤ i → i < b → a ≤ j → j < b → i / s = j / s) : Tg s n d' := by
  intro i hi
  by_cases hin : a ≤ i ∧ i < b
  · exact permIn_all d d' a b (fun z => z.2 / s = i / s) (by omega) hp (fun j h1 h2 => by rw [h j (by omega)]; exact hq j i h1 h2 hin.1 hin.2) i hin.1 hin.2
  · rw [hp.2.1 i (by omega)]; exact h i hi
theorem Tg.dbl {s n : Nat} {d : Array (E × Nat)} (h : Tg s n d) : Tg (s * 2) n d := by
  intro i hi
  have := h i hi
  rw [← Nat.div_div_eq_div_mul, ← Nat.div_div_eq_div_mul, this]
/-- Half way: blocks of twice as many elements are sorted before place a = q * (2 * s). -/
def Hw (s q n : Nat) (d : Array (E × Nat)) : Prop := Tg (s * 2) n d ∧ (∀ i j, i < j → j < n → j < q * (s * 2) → i / (s * 2) = j / (s * 2) → T d[j]! d[i]! = false) ∧ (∀ i, q * (s * 2) ≤ i → i < n → d[i]!.2 / s = i / s) ∧ (∀ i j, q * (s * 2) ≤ i → i < j → j < n → i / s = j / s → T d[j]! d[i]! = false)
theorem Hw.start {s n : Nat} {d : Array (E × Nat)} (h1 : Bk s n d) (h2 : Tg s n d) : Hw s 0 n d := ⟨h2.dbl, fun i j _ _ h => by omega, fun i _ h => h2 i h, fun i j _ h h3 h4 => h1 i j h h3 h4⟩
theorem in_block {s q i : Nat} (hs : 0 < s) (h1 : q * s ≤ i) (h2 : i < q * s + s) : i / s = q := by
  refine Nat.div_eq_of_lt_le (by omega) (by rw [Nat.add_mul]; omega)
theorem Hw.pre {s q n b : Nat} {d : Array (E × Nat)} (h : Hw s q n d) (hs : 0 < s) (hb : b ≤ n) (hb2 : b ≤ q * (s * 2) + s * 2) (hm : q * (s * 2) + s < b) : SortedIn T (q * (s * 2)) (q * (s * 2) + s) d ∧ SortedIn T (q * (s * 2) + s) b d ∧ st.Fair ltK T (q * (s * 2)) (q * (s * 2) + s) b d := by
  have e : q * (s * 2) = (2 * q) * s := by rw [Nat.mul_comm s 2, ← Nat.mul_assoc, Nat.mul_comm q 2]
  refine ⟨fun i j h1 h2 h3 => h.2.2.2 i j h1 h2 (by omega) ?_, fun i j h1 h2 h3 => h.2.2.2 i j (by omega) h2 (by omega) ?_, fair_of fun i j h1 h2 h3 h4 => ?_⟩
  · rw [in_block hs (q := 2 * q) (by omega) (by omega), in_block hs (q := 2 * q) (by omega) (by omega)]
  · rw [in_block hs (q := 2 * q + 1) (by rw [Nat.add_mul]; omega) (by rw [Nat.add_mul]; omega), in_block hs (q := 2 * q + 1) (by rw [Nat.add_mul]; omega) (by rw [Nat.add_mul]; omega)]
  · have hi := h.2.2.1 i h1 (by omega)
    have hj := h.2.2.1 j (by omega) (by omega)
    have ei : i / s = 2 * q := in_block hs (by omega) (by omega)
    have ej : j / s = 2 * q + 1 := in_block hs (by rw [Nat.add_mul]; omega) (by rw [Nat.add_mul]; omega)
    rw [ei] at hi
    rw [ej] at hj
    rcases Nat.lt_or_ge d[i]!.2 d[j]!.2 with h | h
    · exact h
    · have := Nat.div_le_div_right (c := s) h
      omega
theorem Hw.next {s q n b : Nat} {d d' : Array (E × Nat)} (h : Hw s q n d) (hs : 0 < s) (hn : n ≤ d.size) (hb : b ≤ n) (hb2 : b ≤ q * (s * 2) + s * 2) (hend : b = q * (s * 2) + s * 2 ∨ b = n) (hp : PermIn (q * (s * 2)) b d d') (hsd : SortedIn T (q * (s * 2)) b d') : Hw s (q + 1) n d' := by
  have hz : q * (s * 2) + s * 2 = (q + 1) * (s * 2) := by rw [Nat.add_mul]; omega
  have h2 : 0 < s * 2 := by omega
  refine ⟨tg_perm h.1 hn hb hp fun i j h1 h3 h4 h5 => ?_, fun i j hij hjn hjq hd => ?_, fun i h1 h3 => ?_, fun i j h1 h3 h4 h5 => ?_⟩
  · rw [in_block h2 (q := q) h1 (by omega), in_block h2 (q := q) h4 (by omega)]
  · by_cases hj : j < q * (s * 2)
    · rw [hp.2.1 i (by omega), hp.2.1 j (by omega)]; exact h.2.1 i j hij hjn hj hd
    · have hjb : j / (s * 2) = q := in_block h2 (by omega) (by omega)
      have hi : q * (s * 2) ≤ i := by
        have := Nat.div_mul_le_self i (s * 2)
        rw [hd, hjb] at this
        exact this
      exact hsd i j hi hij (by omega)
  · rw [hp.2.1 i (by omega)]; exact h.2.2.1 i (by omega) h3
  · rw [hp.2.1 i (by omega), hp.2.1 j (by omega)]; exact h.2.2.2 i j (by omega) h3 h4 h5
theorem Hw.done {s q n : Nat} {d : Array (E × Nat)} (h : Hw s q n d) (hs : 0 < s) (hq : n ≤ q * (s * 2) + s) : Bk (s * 2) n d ∧ Tg (s * 2) n d := by
  refine ⟨fun i j hij hjn hd => ?_, h.1⟩
  have h2 : 0 < s * 2 := by omega
  by_cases hj : j < q * (s * 2)
  · exact h.2.1 i j hij hjn hj hd
  · have e : q * (s * 2) = (2 * q) * s := by rw [Nat.mul_comm s 2, ← Nat.mul_assoc, Nat.mul_comm q 2]
    have hjb : j / (s * 2) = q := in_block h2 (by omega) (by omega)
    have hi : q * (s * 2) ≤ i := by
      have := Nat.div_mul_le_self i (s * 2)
      rw [hd, hjb] at this
      exact this
    refine h.2.2.2 i j hi hij hjn ?_
    rw [in_block hs (q := 2 * q) (by omega) (by omega), in_block hs (q := 2 * q) (by omega) (by omega)]
theorem Bk.all {s n : Nat} {d : Array (E × Nat)} (h : Bk s n d) (hs : n ≤ s) : SortedIn T 0 n d := fun i j _ hij hj => h i j hij hj (by rw [Nat.div_eq_of_lt (by omega), Nat.div_eq_of_lt (by omega)])
/-! ### The sort by inserting, by tags -/
theorem ins_same {lt T : E × Nat → E × Nat → Bool} (a : Nat) : ∀ (j : Nat) (d : Array (E × Nat)), j < d.size → (∀ x, a ≤ x → x < j → lt d[j]! d[x]! = T d[j]! d[x]!) → insInner lt a j d = insInner T a j d
  | 0, d, _, _ => rfl
  | j + 1, d, hj, h => by
    unfold insInner
    by_cases ha : j + 1 > a
    · have h0 := h j (by omega) (by omega)
      rw [h0]
      cases hT : T d[j + 1]! d[j]! with
      | false => simp
      | true =>
        simp only [ha, decide_true, Bool.and_self, if_true]
        refine ins_same a j (swp d (j + 1) j) (by rw [size_swp]; omega) fun x h1 h2 => ?_
        rw [swp_get d hj (by omega), swp_get d hj (by omega), if_pos rfl, if_neg (by omega), if_neg (by omega)]
        exact h x h1 (by omega)
    · simp [ha]
theorem ins_perm {lt : E × Nat → E × Nat → Bool} (a b : Nat) : ∀ (j : Nat) (d : Array (E × Nat)), j < b → b ≤ d.size → PermIn a b d (insInner lt a j d)
  | 0, d, _, _ => permIn_refl _ _ _
  | j + 1, d, hj, hb => by
    unfold insInner
    by_cases ha : (decide (j + 1 > a) && lt d[j + 1]! d[j]!) = true
    · rw [if_pos ha]
      have hja : a ≤ j := by
        have := (Bool.and_eq_true _ _ ▸ ha).1
        have := of_decide_eq_true this
        omega
      exact permIn_trans _ _ _ _ _ (swp_permIn d a b (j + 1) j (by omega) hj hja (by omega) hb) (ins_perm a b j _ (by omega) (by rw [size_swp]; exact hb))
    · rw [if_neg ha]; exact permIn_refl _ _ _
theorem outer_same (a b : Nat) : ∀ (k i : Nat) (d : Array (E × Nat)), b - i ≤ k → a ≤ i → b ≤ d.size → (∀ x, a ≤ x → x < i → d[x]!.2 < i) → (∀ x, i ≤ x → x < b → d[x]!.2 = x) → insOuter ltK a b i d = insOuter T a b i d
  | 0, i, d, hk, _, _, _, _ => by rw [insOuter_stop _ _ _ _ _ (by omega), insOuter_stop _ _ _ _ _ (by omega)]
  | k + 1, i, d, hk, ha, hb, h1, h2 => by
    by_cases hib : i < b
    · rw [insOuter_go _ _ _ _ _ hib, insOuter_go _ _ _ _ _ hib]
      have e : insInner ltK a i d = insInner T a i d := ins_same a i d (by omega) fun x p q =>
        (fair_of (a := a) (m := i) (b := b) (d := d) fun x y h3 h4 h5 h6 => by have := h1 x h3 h4; have := h2 y h5 h6; omega) x i p q (Nat.le_refl _) hib
      rw [e]
      have hp := ins_perm (lt := T) a (i + 1) i d (by omega) (by omega)
      refine outer_same a b k (i + 1) _ (by omega) (by omega) (by rw [hp.1]; exact hb) (fun x p q => ?_) (fun x p q => ?_)
      · refine permIn_all d _ a (i + 1) (fun z => z.2 < i + 1) (by omega) hp (fun y h3 h4 => ?_) x p q
        by_cases hy : y < i
        · have := h1 y h3 hy; omega
        · have := h2 y (by omega) (by omega); omega
      · rw [hp.2.1 x (by omega)]; exact h2 x (by omega) q
    · rw [insOuter_stop _ _ _ _ _ hib, insOuter_stop _ _ _ _ _ hib]
/-- Elements that stand as their tags tell: sorted by inserting, they are sorted by number, then by tag. -/
theorem insertion_T {a b : Nat} {d : Array (E × Nat)} (hab : a ≤ b) (hb : b ≤ d.size) (h : ∀ x, a ≤ x → x < b → d[x]!.2 = x) : PermIn a b d (Sort.insertionSort ltK d a b) ∧ SortedIn T a b (Sort.insertionSort ltK d a b) := by
  have e : Sort.insertionSort ltK d a b = Sort.insertionSort T d a b := by
    unfold Sort.insertionSort
    by_cases hlt : a < b
    · exact outer_same a b (b - (a + 1)) (a + 1) d (Nat.le_refl _) (by omega) hb (fun x p q => by have := h x p (by omega); omega) (fun x p q => h x (by omega) q)
    · rw [insOuter_stop _ _ _ _ _ (by omega), insOuter_stop _ _ _ _ _ (by omega)]
  rw [e]
  exact insertionSort_holds swoT d a b hab hb
end
end Go.Proofs.YtkldnapbeebdkaaDoor.su
/- A row sorted by 'less' and 'swap': the whole sort. -/
namespace Go.Proofs.YtkldnapbeebdkaaDoor.su
set_option linter.unusedVariables false
open Go.Shelf Go.RowKit Go.Lib Go.Sort
open mem st
variable {E : Type} [Key E]
theorem grown_sort {α : Type} [Inhabited α] {enc : α → Value} {w : World} {blk off n : Nat} {os : Array Obj} (d : Array α) : w.grownBy (sortWorld enc w blk off n d os) (some blk) := by
  unfold sortWorld
  refine ⟨rfl, rfl, rfl, by simp [Sort.ahead], fun k hk hne => ?_⟩
  rw [heap_grow_old _ _ (by rw [size_putRow]; exact hk)]
  have : blk ≠ k := fun e => hne (by rw [e])
  simp [putRow, mapBlock, Sort.ahead, Array.getElem?_modify, this]
set_option maxRecDepth 100000 in
/-- Sorted by inserting, between two places. -/
theorem insertion_at {enc : E × Nat → Value} {g : Nat} {lb : Array Value} {sf : Nat} {sb : Array Value} {w0 : World} {blk off : Nat} {d0 : Array (E × Nat)} (L : Ls enc ltK g lb sf sb w0 blk off d0) (a b : Nat) (d : Array (E × Nat)) (w : World) (hs : d.size = d0.size) (S : SW enc w0 blk off d w) (hab : a ≤ b) (hb : b ≤ d.size) (hsz : d.size < 4611686018427387904) (ht : ∀ x, a ≤ x → x < b → d[x]!.2 = x) :
    Calls Tryd.prog 64 #[dv g lb sf sb, .int .i64 a, .int .i64 b] w fun e w' => e = .returned (.tuple #[]) ∧ ∃ d', PermIn a b d d' ∧ SortedIn T a b d' ∧ St enc w0 blk off d' w w' := by
  have LI := LaysGt.n29.elder ({ layT.laid with } : LaysGt.n29 Tryd.prog layT.ren)
  have hc := Any.insertionSort_func_w LI enc ltK g lb sf sb blk off a b d w L.eg (by rw [hs]; exact S.lessReads L.hless L.hblk hs) (by rw [hs]; exact L.hswap) (S.holds L.hblk L.hH hs) (S.lt L.hblk) hab hb hsz
  refine hc.mono ?_
  rintro e w' ⟨rfl, n, os, rfl⟩
  obtain ⟨h1, h2⟩ := insertion_T hab hb ht
  exact ⟨rfl, _, h1, h2, S.on L.hblk n _ os h1.1, grown_sort _⟩
set_option maxHeartbeats 16000000 in
set_option maxRecDepth 1000000 in
theorem stable_at {enc : E × Nat → Value} {g : Nat} {lb : Array Value} {sf : Nat} {sb : Array Value} {w : World} {blk off : Nat} {d : Array (E × Nat)} (L : Ls enc ltK g lb sf sb w blk off d) (hsz : d.size ≤ 20000) (ht : ∀ x, x < d.size → d[x]!.2 = x) :
    Calls Tryd.prog 41 #[dv g lb sf sb, .int .i64 d.size] w fun e w' => e = .returned (.tuple #[]) ∧ ∃ d', PermIn 0 d.size d d' ∧ SortedIn T 0 d.size d' ∧ St enc w blk off d' w w' := by
  have hbw : blk < w.heap.size := L.hblk
  have mixed := mixedP
  have SB : Aside (St enc w blk off d w (w.alloc (bxo g lb sf sb))) := St.boxed (SW.start L.hH) _
  have S0 : Aside (St enc w blk off d (w.alloc (bxo g lb sf sb)) (w.alloc (bxo g lb sf sb))) := ⟨(SW.start L.hH).alloc _, World.grownBy.refl _ _⟩
  have HT : Hid (∀ x, x < d.size → d[x]!.2 = x) := ht
  obtain ⟨n, hn⟩ : ∃ n, n = d.size := ⟨_, rfl⟩
  rw [← hn] at hsz ⊢
  have HN : Hid (n = d.size) := hn
  clear ht hn
  go_enter Tryd.func41, Tryd.ntmps41
  go_wp2
  go_loopg [5, 6] n (fun kx s7 s8 wr => ∃ (q a : Nat) (dk : Array (E × Nat)), s7 = .int .i64 a ∧ s8 = .int .i64 ((a : Int) + 20) ∧ a ≤ n ∧ n - a ≤ kx ∧ Hid (a = q * 20 ∧ dk.size = n ∧ PermIn 0 n d dk ∧ (∀ x, a ≤ x → x < n → dk[x]!.2 = x) ∧ (∀ i j, i < j → j < a → i / 20 = j / 20 → T dk[j]! dk[i]! = false) ∧ Tg 20 n dk) ∧ Aside (St enc w blk off dk (w.alloc (bxo g lb sf sb)) wr))
  case atStart => exact ⟨0, 0, d, rfl, rfl, by omega, by omega, ⟨by omega, HN.out.symm, permIn_refl _ _ _, fun x _ h => HT.out x (by rw [← HN.out]; exact h), fun i j _ h => by omega, fun i hi => by rw [HT.out i (by rw [← HN.out]; exact hi)]⟩, S0⟩
  case round =>
    clear S0
    obtain ⟨q, a, dk, rfl, rfl, han, hkx, H, S1⟩ := hrel
    obtain ⟨bx0, bx1⟩ := S1.out.box hbw
    obtain ⟨haq, hz, hp, h1, h2, h3⟩ := H.out
    by_cases hlt : a + 20 ≤ n
    · have hltz : (a : Int) + 20 ≤ n := by omega
      have c := insertion_at L a (a + 20) dk wr (by have := HN.out; omega) S1.out.1 (by omega) (by omega) (by omega) (fun x p q => h1 x p (by omega))
      rw [show ((a + 20 : Nat) : Int) = (a : Int) + 20 by omega] at c
      clear haq hz hp h1 h2 h3
      go_wp2_with fail
      refine Calls.mono c ?_
      rintro _ w2 ⟨rfl, d1, p1, s1, S3⟩
      have HP : Hid (PermIn a (a + 20) dk d1) := p1
      have HS : Hid (SortedIn T a (a + 20) d1) := s1
      have S4 : Aside (St enc w blk off d1 (w.alloc (bxo g lb sf sb)) w2) := S1.out.trans S3
      clear bx0 bx1
      obtain ⟨bx0, bx1⟩ := S4.out.box hbw
      clear p1 s1 S3 c S1
      go_wp2
      go_roundg (n - (a + 20))
      case measure => omega
      case rel =>
        obtain ⟨haq, hz, hp, h1, h2, h3⟩ := H.out
        refine ⟨q + 1, a + 20, d1, by first | rfl | go_num | (congr 1; omega), by first | rfl | go_num | (congr 1; omega), hlt, Nat.le_refl _, ⟨by omega, HP.out.1.trans hz, permIn_trans _ _ _ _ _ hp (permIn_mono dk d1 a (a + 20) 0 n (by omega) (by omega) (by omega) HP.out), fun x p q => by rw [HP.out.2.1 x (by omega)]; exact h1 x (by omega) q, fun i j hij hj hd => ?_, tg_perm h3 (by omega) hlt HP.out (fun i j p q r t => by omega)⟩, S4⟩
        by_cases hja : j < a
        · rw [HP.out.2.1 i (by omega), HP.out.2.1 j (by omega)]; exact h2 i j hij hja hd
        · exact HS.out i j (by omega) hij hj
    · have hltz : ¬ (a : Int) + 20 ≤ n := by omega
      have c := insertion_at L a n dk wr (by have := HN.out; omega) S1.out.1 (by omega) (by omega) (by omega) (fun x p q => h1 x p (by omega))
      clear haq hz hp h1 h2 h3
      go_wp2_with fail
      refine Calls.mono c ?_
      rintro _ w2 ⟨rfl, d1, p1, s1, S3⟩
      have HB : Hid (d1.size = n ∧ PermIn 0 n d d1 ∧ Bk 20 n d1 ∧ Tg 20 n d1) := by
        obtain ⟨haq, hz, hp, h1, h2, h3⟩ := H.out
        refine ⟨p1.1.trans hz, permIn_trans _ _ _ _ _ hp (permIn_mono dk d1 a n 0 n (by omega) (by omega) (by omega) p1), fun i j hij hj hd => ?_, tg_perm h3 (by omega) (Nat.le_refl _) p1 (fun i j p q r t => by omega)⟩
        by_cases hja : j < a
        · rw [p1.2.1 i (by omega), p1.2.1 j (by omega)]; exact h2 i j hij hja hd
        · exact s1 i j (by omega) hij hj
      have S4 : Aside (St enc w blk off d1 (w.alloc (bxo g lb sf sb)) w2) := S1.out.trans S3
      clear bx0 bx1
      obtain ⟨bx0, bx1⟩ := S4.out.box hbw
      clear p1 s1 S3 c S1 H
      go_wp2_with fail
      go_loopg [4, 5, 6, 7] n (fun kx s6 s7 s8 s9 wr => ∃ (s : Nat) (dk : Array (E × Nat)), s6 = .int .i64 s ∧ 20 ≤ s ∧ s ≤ 40000 ∧ n - s ≤ kx ∧ Hid (dk.size = n ∧ PermIn 0 n d dk ∧ Bk s n dk ∧ Tg s n dk) ∧ Aside (St enc w blk off dk (w.alloc (bxo g lb sf sb)) wr))
      case atStart => exact ⟨20, d1, rfl, by omega, by omega, by omega, HB, S4⟩
      case round =>
        clear S4 HB
        obtain ⟨s, dk, rfl, hs20, hs4, hkx, H, S1⟩ := hrel
        obtain ⟨bx0, bx1⟩ := S1.out.box hbw
        by_cases hlt : s < n
        · have hltz : (s : Int) < n := by omega
          go_wp2_with fail
          go_loopg [5, 6] n (fun kx s7 s8 wr => ∃ (q a : Nat) (dk : Array (E × Nat)), s7 = .int .i64 a ∧ s8 = .int .i64 ((a : Int) + 2 * (s : Int)) ∧ a ≤ n ∧ n - a ≤ kx ∧ Hid (a = q * (s * 2) ∧ dk.size = n ∧ PermIn 0 n d dk ∧ Hw s q n dk) ∧ Aside (St enc w blk off dk (w.alloc (bxo g lb sf sb)) wr))
          case atStart => exact ⟨0, 0, dk, rfl, by first | rfl | (congr 1; omega), by omega, by omega, ⟨by omega, H.out.1, H.out.2.1, Hw.start H.out.2.2.1 H.out.2.2.2⟩, S1⟩
          case round =>
            clear S1 H dk
            obtain ⟨q, a, dk, rfl, rfl, han, hkx2, H, S1⟩ := hrel
            obtain ⟨bx0, bx1⟩ := S1.out.box hbw
            obtain ⟨haq, hz, hp, hw⟩ := H.out
            by_cases hlt2 : a + 2 * s ≤ n
            · have hlt2z : (a : Int) + 2 * (s : Int) ≤ n := by omega
              have hpre := hw.pre (b := a + 2 * s) (by omega) hlt2 (by omega) (by omega)
              rw [← haq] at hpre
              have c := symMerge_at T swoT L (by have := HN.out; omega) (2 * s) a (a + s) (a + 2 * s) dk wr (by omega) (by have := HN.out; omega) S1.out.1 (by omega) (by omega) (by omega) hpre.1 hpre.2.1 hpre.2.2
              rw [show ((a + s : Nat) : Int) = (a : Int) + (s : Int) by omega, show ((a + 2 * s : Nat) : Int) = (a : Int) + 2 * (s : Int) by omega] at c
              clear haq hz hp hw hpre
              go_wp2_with fail
              refine Calls.mono c ?_
              rintro _ w3 ⟨rfl, d2, p1, s1, S3⟩
              have HP : Hid (PermIn a (a + 2 * s) dk d2) := p1
              have HS : Hid (SortedIn T a (a + 2 * s) d2) := s1
              have S4 : Aside (St enc w blk off d2 (w.alloc (bxo g lb sf sb)) w3) := S1.out.trans S3
              clear bx0 bx1
              obtain ⟨bx0, bx1⟩ := S4.out.box hbw
              clear p1 s1 S3 c S1
              go_wp2
              go_roundg (n - (a + 2 * s))
              case measure => omega
              case rel =>
                obtain ⟨haq, hz, hp, hw⟩ := H.out
                have p1 := HP.out
                have s1 := HS.out
                refine ⟨q + 1, a + 2 * s, d2, by first | rfl | go_num | (congr 1; omega), by first | rfl | go_num | (congr 1; omega), hlt2, Nat.le_refl _, ⟨by rw [Nat.add_mul]; omega, p1.1.trans hz, permIn_trans _ _ _ _ _ hp (permIn_mono dk d2 a (a + 2 * s) 0 n (by omega) (by omega) (by omega) p1), ?_⟩, S4⟩
                rw [haq] at p1 s1 hlt2
                exact hw.next (by omega) (by omega) hlt2 (by omega) (Or.inl (by omega)) p1 s1
            · have hlt2z : ¬ (a : Int) + 2 * (s : Int) ≤ n := by omega
              by_cases hm : a + s < n
              · have hmz : (a : Int) + (s : Int) < n := by omega
                have hpre := hw.pre (b := n) (by omega) (Nat.le_refl _) (by omega) (by omega)
                rw [← haq] at hpre
                have c := symMerge_at T swoT L (by have := HN.out; omega) n a (a + s) n dk wr (by omega) (by have := HN.out; omega) S1.out.1 (by omega) (by omega) (by omega) hpre.1 hpre.2.1 hpre.2.2
                rw [show ((a + s : Nat) : Int) = (a : Int) + (s : Int) by omega] at c
                clear haq hz hp hw hpre
                go_wp2_with fail
                refine Calls.mono c ?_
                rintro _ w3 ⟨rfl, d2, p1, s1, S3⟩
                have HP : Hid (PermIn a n dk d2) := p1
                have HS : Hid (SortedIn T a n d2) := s1
                have S4 : Aside (St enc w blk off d2 (w.alloc (bxo g lb sf sb)) w3) := S1.out.trans S3
                clear bx0 bx1
                obtain ⟨bx0, bx1⟩ := S4.out.box hbw
                clear p1 s1 S3 c S1
                go_wp2
                go_roundg (n - s * 2)
                case measure => omega
                case rel =>
                  obtain ⟨haq, hz, hp, hw⟩ := H.out
                  have p1 := HP.out
                  have s1 := HS.out
                  have hpp := permIn_trans _ _ _ _ _ hp (permIn_mono dk d2 a n 0 n (by omega) (by omega) (by omega) p1)
                  rw [haq] at p1 s1
                  obtain ⟨b1, b2⟩ := (hw.next (b := n) (by omega) (by omega) (Nat.le_refl _) (by omega) (Or.inr rfl) p1 s1).done (by omega) (by rw [Nat.add_mul]; omega)
                  exact ⟨s * 2, d2, by first | rfl | go_num | (congr 1; omega), by omega, by omega, Nat.le_refl _, ⟨p1.1.trans hz, hpp, b1, b2⟩, S4⟩
              · have hmz : ¬ (a : Int) + (s : Int) < n := by omega
                clear haq hz hp hw
                go_wp2
                go_roundg (n - s * 2)
                case measure => omega
                case rel =>
                  obtain ⟨haq, hz, hp, hw⟩ := H.out
                  obtain ⟨b1, b2⟩ := hw.done (by omega) (by omega)
                  exact ⟨s * 2, dk, by first | rfl | go_num | (congr 1; omega), by omega, by omega, Nat.le_refl _, ⟨hz, hp, b1, b2⟩, S1⟩
        · have hltz : ¬ (s : Int) < n := by omega
          go_wp2
          go_end0
          exact ⟨rfl, dk, H.out.2.1, H.out.2.2.1.all (by omega), SB.out.trans S1.out⟩
end Go.Proofs.YtkldnapbeebdkaaDoor.su
