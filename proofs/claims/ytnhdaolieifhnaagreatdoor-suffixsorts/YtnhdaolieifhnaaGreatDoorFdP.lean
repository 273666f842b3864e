/- Plain facts on where patterns stand: what a text begins and ends with; which places there are. -/
namespace Go.Proofs.YtnhdaolieifhnaaGreatDoor.fd
set_option linter.unusedVariables false

/-- The first n of p end at place i of f. -/
def En (p f : Nat → Int) (n i : Nat) : Prop := n ≤ i ∧ ∀ j, j < n → p j = f (i - n + j)
instance (p f : Nat → Int) (n i : Nat) : Decidable (En p f n i) := by unfold En; infer_instance
theorem En.zero (p f : Nat → Int) (i : Nat) : En p f 0 i := ⟨Nat.zero_le _, fun j h => absurd h (Nat.not_lt_zero _)⟩
theorem En.succ {p f : Nat → Int} {n i : Nat} : En p f (n + 1) (i + 1) ↔ En p f n i ∧ p n = f i := by
  constructor
  · rintro ⟨h1, h2⟩
    refine ⟨⟨by omega, fun j hj => ?_⟩, ?_⟩
    · have := h2 j (by omega)
      rwa [show i + 1 - (n + 1) + j = i - n + j by omega] at this
    · have := h2 n (by omega)
      rwa [show i + 1 - (n + 1) + n = i by omega] at this
  · rintro ⟨⟨h1, h2⟩, h3⟩
    refine ⟨by omega, fun j hj => ?_⟩
    rcases Nat.lt_or_ge j n with h | h
    · rw [show i + 1 - (n + 1) + j = i - n + j by omega]; exact h2 j h
    · obtain rfl : j = n := by omega
      rw [show i + 1 - (j + 1) + j = i by omega]; exact h3
/-- A pattern from its second byte on. -/
def tl (p : Nat → Int) : Nat → Int := fun j => p (j + 1)
theorem En.inner {p f : Nat → Int} {n i k : Nat} (h : En p f n i) (hk : k < n) : En p f k i ↔ En p (tl p) k (n - 1) := by
  have e : ∀ j, j < k → f (i - k + j) = tl p (n - 1 - k + j) := fun j hj => by
    have := h.2 (n - k + j) (by omega)
    unfold tl
    rw [show n - 1 - k + j + 1 = n - k + j by omega, this]
    have := h.1
    congr 1
    omega
  constructor
  · rintro ⟨h1, h2⟩
    exact ⟨by omega, fun j hj => by rw [h2 j hj]; exact e j hj⟩
  · rintro ⟨h1, h2⟩
    have := h.1
    exact ⟨by omega, fun j hj => by rw [h2 j hj]; exact (e j hj).symm⟩
/-- So many of p's first L are the most that end at place i. -/
def Lg (p f : Nat → Int) (L n i : Nat) : Prop := n ≤ L ∧ En p f n i ∧ ∀ k, k ≤ L → En p f k i → k ≤ n
theorem Lg.same {p f : Nat → Int} {L n m i : Nat} (h : Lg p f L n i) (k : Lg p f L m i) : n = m := by
  have := h.2.2 m k.1 k.2.1
  have := k.2.2 n h.1 h.2.1
  omega
def lgFrom (p f : Nat → Int) (i : Nat) : Nat → Nat
  | 0 => 0
  | n + 1 => if En p f (n + 1) i then n + 1 else lgFrom p f i n
def lg (p f : Nat → Int) (L i : Nat) : Nat := lgFrom p f i L
theorem lg_is (p f : Nat → Int) (L i : Nat) : Lg p f L (lg p f L i) i := by
  unfold lg
  induction L with
  | zero => exact ⟨Nat.le_refl _, En.zero _ _ _, fun k hk _ => hk⟩
  | succ L ih =>
    rw [lgFrom]
    by_cases h : En p f (L + 1) i
    · rw [if_pos h]; exact ⟨Nat.le_refl _, h, fun k hk _ => hk⟩
    · rw [if_neg h]
      refine ⟨Nat.le_succ_of_le ih.1, ih.2.1, fun k hk he => ?_⟩
      rcases Nat.lt_or_ge k (L + 1) with h' | h'
      · exact ih.2.2 k (by omega) he
      · obtain rfl : k = L + 1 := by omega
        exact absurd he h
theorem Lg.eq {p f : Nat → Int} {L n i : Nat} (h : Lg p f L n i) : n = lg p f L i := h.same (lg_is p f L i)
theorem lg_zero (p f : Nat → Int) (L : Nat) : lg p f L 0 = 0 := by
  have := (lg_is p f L 0).2.1.1
  omega
theorem lg_le (p f : Nat → Int) (L i : Nat) : lg p f L i ≤ L := (lg_is p f L i).1
theorem lg_le' (p f : Nat → Int) (L i : Nat) : lg p f L i ≤ i := (lg_is p f L i).2.1.1
/-- On the way: none longer goes on with c. -/
def Md (p f : Nat → Int) (L n i : Nat) (c : Int) : Prop := n ≤ L ∧ En p f n i ∧ ∀ k, n < k → k < L → En p f k i → p k ≠ c
theorem Lg.md {p f : Nat → Int} {L n i : Nat} (h : Lg p f L n i) (c : Int) : Md p f L n i c := ⟨h.1, h.2.1, fun k h1 h2 h3 => by have := h.2.2 k (by omega) h3; omega⟩
theorem Md.shorter {p f : Nat → Int} {L n i : Nat} {c : Int} (h : Md p f L n i c) (h0 : 0 < n) (hn : n < L → p n ≠ c) : Md p f L (lg p (tl p) L (n - 1)) i c ∧ lg p (tl p) L (n - 1) < n := by
  have hl := lg_is p (tl p) L (n - 1)
  have hlt : lg p (tl p) L (n - 1) < n := by have := hl.2.1.1; omega
  refine ⟨⟨hl.1, (h.2.1.inner hlt).2 hl.2.1, fun k h1 h2 h3 => ?_⟩, hlt⟩
  rcases Nat.lt_trichotomy k n with h4 | h4 | h4
  · have := hl.2.2 k (by omega) ((h.2.1.inner h4).1 h3)
    omega
  · subst h4; exact hn h2
  · exact h.2.2 k h4 h2 h3
theorem Md.on {p f : Nat → Int} {L n i : Nat} {c : Int} (h : Md p f L n i c) (hf : f i = c) (hn : n < L) (hc : p n = c) : n + 1 = lg p f L (i + 1) := by
  refine Lg.eq ⟨hn, En.succ.2 ⟨h.2.1, by rw [hc, hf]⟩, fun k hk he => ?_⟩
  cases k with
  | zero => omega
  | succ k =>
    obtain ⟨h1, h2⟩ := En.succ.1 he
    rcases Nat.lt_or_ge n k with h3 | h3
    · exact absurd (h2.trans hf) (h.2.2 k h3 (by omega) h1)
    · omega
theorem Md.none {p f : Nat → Int} {L i : Nat} {c : Int} (h : Md p f L 0 i c) (hf : f i = c) (hn : 0 < L → p 0 ≠ c) : 0 = lg p f L (i + 1) := by
  refine Lg.eq ⟨Nat.zero_le _, En.zero _ _ _, fun k hk he => ?_⟩
  cases k with
  | zero => omega
  | succ k =>
    obtain ⟨h1, h2⟩ := En.succ.1 he
    rcases Nat.eq_zero_or_pos k with h3 | h3
    · subst h3; exact absurd (h2.trans hf) (hn (by omega))
    · exact absurd (h2.trans hf) (h.2.2 k h3 (by omega) h1)
theorem lg_full (p f : Nat → Int) (L i : Nat) : lg p f L i = L ↔ En p f L i := by
  have h := lg_is p f L i
  constructor
  · intro e; rw [e] at h; exact h.2.1
  · intro e
    have := h.2.2 L (Nat.le_refl _) e
    have := h.1
    omega
/-- What a pattern begins and ends with, of its beginnings. -/
def brs (p : Nat → Int) (L m : Nat) : List Int := (List.range m).map fun k => ((lg p (tl p) L k : Nat) : Int)
theorem brs_len (p : Nat → Int) (L m : Nat) : (brs p L m).length = m := by simp [brs]
theorem brs_at (p : Nat → Int) (L m k : Nat) (h : k < m) : (brs p L m).getD k 0 = ((lg p (tl p) L k : Nat) : Int) := by simp [brs, h]
/-- The same, on the way: the first i are told, the others are 0. -/
def brz (p : Nat → Int) (L i : Nat) : List Int := brs p L i ++ List.replicate (L - i) 0
theorem brz_len (p : Nat → Int) (L i : Nat) (h : i ≤ L) : (brz p L i).length = L := by simp [brz, brs]; omega
theorem brz_at (p : Nat → Int) (L i k : Nat) (h : k < i) : (brz p L i).getD k 0 = ((lg p (tl p) L k : Nat) : Int) := by
  unfold brz
  rw [List.getD_eq_getElem?_getD, List.getElem?_append_left (by rw [brs_len]; exact h), ← List.getD_eq_getElem?_getD]
  exact brs_at p L i k h
theorem brz_one (p : Nat → Int) (L : Nat) (h : 0 < L) : brz p L 1 = List.replicate L 0 := by
  obtain ⟨n, rfl⟩ : ∃ n, L = n + 1 := ⟨L - 1, by omega⟩
  have e : brs p (n + 1) 1 = [0] := by
    have := lg_zero p (tl p) (n + 1)
    simp [brs, this]
  unfold brz
  rw [e, Nat.add_sub_cancel, List.replicate_succ]
  rfl
theorem brz_all (p : Nat → Int) (L : Nat) : brz p L L = brs p L L := by simp [brz]
theorem brz_next (p : Nat → Int) (L i : Nat) (h : i < L) : (brz p L i).set i ((lg p (tl p) L i : Nat) : Int) = brz p L (i + 1) := by
  unfold brz
  rw [List.set_append_right i _ (by rw [brs_len]; exact Nat.le_refl _), brs_len, Nat.sub_self]
  obtain ⟨n, hn⟩ : ∃ n, L - i = n + 1 := ⟨L - i - 1, by omega⟩
  rw [hn, show L - (i + 1) = n by omega, List.replicate_succ, List.set_cons_zero]
  simp [brs, List.range_succ]
/-- The places below n that are so, rising. -/
def sta (q : Nat → Bool) (n : Nat) : List Nat := (List.range n).filter q
theorem sta_zero (q : Nat → Bool) : sta q 0 = [] := rfl
theorem sta_yes (q : Nat → Bool) (n : Nat) (h : q n = true) : sta q (n + 1) = sta q n ++ [n] := by
  unfold sta
  rw [List.range_succ, List.filter_append]
  simp [h]
theorem sta_no (q : Nat → Bool) (n : Nat) (h : q n = false) : sta q (n + 1) = sta q n := by
  unfold sta
  rw [List.range_succ, List.filter_append]
  simp [h]
theorem mem_sta (q : Nat → Bool) (n x : Nat) : x ∈ sta q n ↔ x < n ∧ q x = true := by
  unfold sta
  rw [List.mem_filter, List.mem_range]
theorem sta_rising (q : Nat → Bool) (n : Nat) : (sta q n).Pairwise (· < ·) := List.Pairwise.filter _ List.pairwise_lt_range
theorem sta_len (q : Nat → Bool) (n : Nat) : (sta q n).length ≤ n := by
  unfold sta
  have := List.length_filter_le q (List.range n)
  rwa [List.length_range] at this
theorem sta_congr (q r : Nat → Bool) (n : Nat) (h : ∀ x, x < n → q x = r x) : sta q n = sta r n := by
  induction n with
  | zero => rfl
  | succ n ih =>
    have e := ih fun x hx => h x (by omega)
    have h' := h n (by omega)
    cases hq : q n with
    | true => rw [sta_yes q n hq, sta_yes r n (by rw [← h', hq]), e]
    | false => rw [sta_no q n hq, sta_no r n (by rw [← h', hq]), e]
theorem sta_beyond (q : Nat → Bool) (n m : Nat) (hnm : n ≤ m) (h : ∀ x, n ≤ x → q x = false) : sta q m = sta q n := by
  obtain ⟨d, rfl⟩ : ∃ d, m = n + d := ⟨m - n, by omega⟩
  clear hnm
  induction d with
  | zero => rfl
  | succ d ih => rw [← Nat.add_assoc, sta_no q (n + d) (h _ (by omega)), ih]
/-- p stands at x. -/
def St (p f : Nat → Int) (L x : Nat) : Bool := decide (∀ j, j < L → p j = f (x + j))
theorem St.en (p f : Nat → Int) (L x : Nat) : St p f L x = decide (En p f L (x + L)) := by
  unfold St
  refine decide_eq_decide.2 ⟨fun h => ⟨by omega, fun j hj => ?_⟩, fun h j hj => ?_⟩
  · rw [show x + L - L + j = x + j by omega]; exact h j hj
  · have := h.2 j hj
    rwa [show x + L - L + j = x + j by omega] at this
/-- Numbers of the program's. -/
def ints (l : List Nat) : List Int := l.map fun (x : Nat) => (x : Int)
theorem ints_len (l : List Nat) : (ints l).length = l.length := by simp [ints]
theorem ints_app (l : List Nat) (x : Nat) : ints (l ++ [x]) = ints l ++ [(x : Int)] := by simp [ints]
/-- Where p stands in the first N of f. -/
def pls (p f : Nat → Int) (L N : Nat) : List Nat := sta (St p f L) (N + 1 - L)
theorem pls_zero (p f : Nat → Int) (L : Nat) (hL : 0 < L) : pls p f L 0 = [] := by
  unfold pls
  rw [show 0 + 1 - L = 0 by omega]
  rfl
theorem pls_len (p f : Nat → Int) (L N : Nat) (hL : 0 < L) : (pls p f L N).length ≤ N := by
  have := sta_len (St p f L) (N + 1 - L)
  unfold pls
  omega
theorem pls_yes (p f : Nat → Int) (L i : Nat) (hL : 0 < L) (h : lg p f L (i + 1) = L) : L ≤ i + 1 ∧ pls p f L (i + 1) = pls p f L i ++ [i + 1 - L] := by
  have he := (lg_full p f L (i + 1)).1 h
  have h1 := he.1
  refine ⟨h1, ?_⟩
  unfold pls
  rw [show i + 1 + 1 - L = (i + 1 - L) + 1 by omega]
  refine sta_yes _ _ ?_
  rw [St.en, show i + 1 - L + L = i + 1 by omega]
  exact decide_eq_true he
theorem pls_no (p f : Nat → Int) (L i : Nat) (h : lg p f L (i + 1) ≠ L) : pls p f L (i + 1) = pls p f L i := by
  have he := fun k => h ((lg_full p f L (i + 1)).2 k)
  unfold pls
  rcases Nat.lt_or_ge (i + 1) L with h1 | h1
  · rw [show i + 1 + 1 - L = 0 by omega, show i + 1 - L = 0 by omega]
  · rw [show i + 1 + 1 - L = (i + 1 - L) + 1 by omega]
    refine sta_no _ _ ?_
    rw [St.en, show i + 1 - L + L = i + 1 by omega]
    exact decide_eq_false he
/-- What rises and has the same is the same. -/
theorem rising_same : ∀ (a b : List Nat), a.Pairwise (· < ·) → b.Pairwise (· < ·) → (∀ x, x ∈ a ↔ x ∈ b) → a = b
  | [], [], _, _, _ => rfl
  | [], y :: b, _, _, h => absurd ((h y).2 (List.mem_cons_self ..)) (by simp)
  | x :: a, [], _, _, h => absurd ((h x).1 (List.mem_cons_self ..)) (by simp)
  | x :: a, y :: b, ha, hb, h => by
    obtain ⟨ha1, ha2⟩ := List.pairwise_cons.1 ha
    obtain ⟨hb1, hb2⟩ := List.pairwise_cons.1 hb
    have hxy : x = y := by
      have h1 := (h x).1 (List.mem_cons_self ..)
      have h2 := (h y).2 (List.mem_cons_self ..)
      rcases List.mem_cons.1 h1 with h1 | h1
      · exact h1
      · rcases List.mem_cons.1 h2 with h2 | h2
        · exact h2.symm
        · have := hb1 x h1; have := ha1 y h2; omega
    subst hxy
    rw [rising_same a b ha2 hb2 fun z => ?_]
    have hz := h z
    simp only [List.mem_cons] at hz
    constructor
    · intro h1
      have := ha1 z h1
      rcases hz.1 (Or.inr h1) with h2 | h2
      · omega
      · exact h2
    · intro h1
      have := hb1 z h1
      rcases hz.2 (Or.inr h1) with h2 | h2
      · omega
      · exact h2
end Go.Proofs.YtnhdaolieifhnaaGreatDoor.fd
