/- Texts laid together: StP, LayS. -/
import Derived.Sort.LotA
import Derived.Test.YtkldnapbeebdkaaDoorChecked
import Derived.Shelf.SlLaysF0
/- How a stable sort goes, in plain rows: parts exchanged, turned round, merged where they stand. -/
namespace Go.Proofs.YtkldnapbeebdkaaDoor.st
set_option linter.unusedVariables false
open Go.Sort
variable {α : Type} [Inhabited α]

/-- Two parts of n elements, exchanged. -/
def Sr (a b n : Nat) (d d' : Array α) : Prop := d'.size = d.size ∧ ∀ x, d'[x]! = if a ≤ x ∧ x < a + n then d[x - a + b]! else if b ≤ x ∧ x < b + n then d[x - b + a]! else d[x]!
theorem Sr.zero (a b : Nat) (d : Array α) : Sr a b 0 d d := ⟨rfl, fun x => by rw [if_neg (by omega), if_neg (by omega)]⟩
theorem Sr.step {a b i : Nat} {d dk : Array α} (h : Sr a b i d dk) (hab : a + i + 1 ≤ b) (hb : b + i + 1 ≤ d.size) : Sr a b (i + 1) d (swp dk (a + i) (b + i)) := by
  refine ⟨by rw [size_swp, h.1], fun x => ?_⟩
  rw [swp_get dk (by rw [h.1]; omega) (by rw [h.1]; omega)]
  simp only [h.2]
  repeat' split
  all_goals first | rfl | (exfalso; omega) | (congr 1; omega) | (exfalso; contradiction) | (rename_i h1 _; exact absurd trivial h1)
theorem Sr.perm {a b n lo hi : Nat} {d dk : Array α} (h : PermIn lo hi d dk) (hlo : lo ≤ a) (hhi : b < hi) (ha : a < hi) (hb : lo ≤ b) (hs : hi ≤ d.size) : PermIn lo hi d (swp dk a b) :=
  permIn_trans _ _ _ _ _ h (swp_permIn _ _ _ _ _ hlo ha hb hhi (by rw [h.1]; exact hs))

/-- Two parts side by side, in the other order. -/
def Rt (a m b : Nat) (d d' : Array α) : Prop := d'.size = d.size ∧ ∀ x, d'[x]! = if a ≤ x ∧ x < a + (b - m) then d[x - a + m]! else if a + (b - m) ≤ x ∧ x < b then d[x - (b - m)]! else d[x]!
theorem Rt.more {m i j : Nat} {d d1 d' : Array α} (h : Sr (m - i) m j d d1) (hj : j < i) (him : i ≤ m) (h2 : Rt (m - (i - j)) m (m + j) d1 d') : Rt (m - i) m (m + j) d d' := by
  refine ⟨h2.1.trans h.1, fun x => ?_⟩
  rw [h2.2 x]
  simp only [h.2]
  repeat' split
  all_goals first | rfl | (exfalso; omega) | (congr 1; omega) | (exfalso; contradiction) | (rename_i h1 _; exact absurd trivial h1)
theorem Rt.fewer {m i j : Nat} {d d1 d' : Array α} (h : Sr (m - i) (m + j - i) i d d1) (hj : i < j) (him : i ≤ m) (h2 : Rt (m - i) m (m + (j - i)) d1 d') : Rt (m - i) m (m + j) d d' := by
  refine ⟨h2.1.trans h.1, fun x => ?_⟩
  rw [h2.2 x]
  simp only [h.2]
  repeat' split
  all_goals first | rfl | (exfalso; omega) | (congr 1; omega) | (exfalso; contradiction) | (rename_i h1 _; exact absurd trivial h1)
theorem Rt.same {m i : Nat} {d d' : Array α} (h : Sr (m - i) m i d d') (him : i ≤ m) : Rt (m - i) m (m + i) d d' := by
  refine ⟨h.1, fun x => ?_⟩
  rw [h.2 x]
  repeat' split
  all_goals first | rfl | (exfalso; omega) | (congr 1; omega) | (exfalso; contradiction) | (rename_i h1 _; exact absurd trivial h1)

/-- What is told of the right and the left part is as by the finer order. -/
def Fair (lt T : α → α → Bool) (a m b : Nat) (d : Array α) : Prop := ∀ i j, a ≤ i → i < m → m ≤ j → j < b → lt d[j]! d[i]! = T d[j]! d[i]!
variable {T : α → α → Bool}
omit [Inhabited α] in
theorem asym (hO : SWO T) {x y : α} (h : T x y = true) : T y x = false := by
  cases h2 : T y x with
  | false => rfl
  | true => exact absurd (hO.trans _ _ _ h h2) (by rw [hO.irrefl]; simp)

/-- The first element, gone to the right as far as k. -/
def Sl (a k : Nat) (d d' : Array α) : Prop := d'.size = d.size ∧ ∀ x, d'[x]! = if a ≤ x ∧ x < k then d[x + 1]! else if x = k then d[a]! else d[x]!
theorem Sl.zero (a : Nat) (d : Array α) : Sl a a d d := by
  refine ⟨rfl, fun x => ?_⟩
  rw [if_neg (by omega)]
  by_cases h : x = a
  · rw [if_pos h, h]
  · rw [if_neg h]
theorem Sl.step {a k : Nat} {d dk : Array α} (h : Sl a k d dk) (hak : a ≤ k) (hb : k + 1 < d.size) : Sl a (k + 1) d (swp dk k (k + 1)) := by
  refine ⟨by rw [size_swp, h.1], fun x => ?_⟩
  rw [swp_get dk (by rw [h.1]; omega) (by rw [h.1]; omega)]
  simp only [h.2]
  repeat' split
  all_goals first | rfl | (exfalso; omega) | (congr 1; omega) | (exfalso; contradiction) | (rename_i h1 _; exact absurd trivial h1)
theorem merge_left (hO : SWO T) {a b i : Nat} {d d' : Array α} (hs : SortedIn T (a + 1) b d) (hi : a + 1 ≤ i) (hib : i ≤ b) (h1 : ∀ j, a + 1 ≤ j → j < i → T d[j]! d[a]! = true) (h2 : ∀ j, i ≤ j → j < b → T d[j]! d[a]! = false) (h : Sl a (i - 1) d d') : SortedIn T a b d' := by
  have e1 : ∀ x, a ≤ x → x < i - 1 → d'[x]! = d[x + 1]! := fun x p q => by rw [h.2 x, if_pos ⟨p, q⟩]
  have e2 : ∀ x, x = i - 1 → d'[x]! = d[a]! := fun x p => by rw [h.2 x, if_neg (by omega), if_pos p]
  have e3 : ∀ x, i ≤ x → d'[x]! = d[x]! := fun x p => by rw [h.2 x, if_neg (by omega), if_neg (by omega)]
  intro x y hax hxy hyb
  by_cases hx : x < i - 1
  · rw [e1 x hax hx]
    by_cases hy : y < i - 1
    · rw [e1 y (by omega) hy]; exact hs _ _ (by omega) (by omega) (by omega)
    · by_cases hy2 : y = i - 1
      · rw [e2 y hy2]; exact asym hO (h1 _ (by omega) (by omega))
      · rw [e3 y (by omega)]; exact hs _ _ (by omega) (by omega) hyb
  · rw [e3 y (by omega)]
    by_cases hx2 : x = i - 1
    · rw [e2 x hx2]; exact h2 _ (by omega) hyb
    · rw [e3 x (by omega)]; exact hs _ _ (by omega) (by omega) hyb
/-- The last element, gone to the left as far as k. -/
def Sg (k m : Nat) (d d' : Array α) : Prop := d'.size = d.size ∧ ∀ x, d'[x]! = if k < x ∧ x ≤ m then d[x - 1]! else if x = k then d[m]! else d[x]!
theorem Sg.zero (m : Nat) (d : Array α) : Sg m m d d := by
  refine ⟨rfl, fun x => ?_⟩
  rw [if_neg (by omega)]
  by_cases h : x = m
  · rw [if_pos h, h]
  · rw [if_neg h]
theorem Sg.step {k m : Nat} {d dk : Array α} (h : Sg (k + 1) m d dk) (hkm : k + 1 ≤ m) (hb : m < d.size) : Sg k m d (swp dk (k + 1) k) := by
  refine ⟨by rw [size_swp, h.1], fun x => ?_⟩
  rw [swp_get dk (by rw [h.1]; omega) (by rw [h.1]; omega)]
  simp only [h.2]
  repeat' split
  all_goals first | rfl | (exfalso; omega) | (congr 1; omega) | (exfalso; contradiction) | (rename_i h1 _; exact absurd trivial h1)
theorem merge_right (hO : SWO T) {a m i : Nat} {d d' : Array α} (hs : SortedIn T a m d) (hi : a ≤ i) (him : i ≤ m) (h1 : ∀ j, a ≤ j → j < i → T d[m]! d[j]! = false) (h2 : ∀ j, i ≤ j → j < m → T d[m]! d[j]! = true) (h : Sg i m d d') : SortedIn T a (m + 1) d' := by
  have e1 : ∀ x, i < x → x ≤ m → d'[x]! = d[x - 1]! := fun x p q => by rw [h.2 x, if_pos ⟨p, q⟩]
  have e2 : ∀ x, x = i → d'[x]! = d[m]! := fun x p => by rw [h.2 x, if_neg (by omega), if_pos p]
  have e3 : ∀ x, x < i → d'[x]! = d[x]! := fun x p => by rw [h.2 x, if_neg (by omega), if_neg (by omega)]
  intro x y hax hxy hyb
  by_cases hx : x < i
  · rw [e3 x hx]
    by_cases hy : y < i
    · rw [e3 y hy]; exact hs _ _ hax hxy (by omega)
    · by_cases hy2 : y = i
      · rw [e2 y hy2]; exact h1 _ hax hx
      · rw [e1 y (by omega) (by omega)]; exact hs _ _ hax (by omega) (by omega)
  · rw [e1 y (by omega) (by omega)]
    by_cases hx2 : x = i
    · rw [e2 x hx2]; exact asym hO (h2 _ (by omega) (by omega))
    · rw [e1 x (by omega) (by omega)]; exact hs _ _ (by omega) (by omega) (by omega)
/-- Where the middle is cut well, all of the first half is before all of the second. -/
theorem merge_main (hO : SWO T) {a m b s e mid : Nat} {d d1 d2 d3 : Array α} (hb : b ≤ d.size) (hl : SortedIn T a m d) (hr : SortedIn T m b d) (has : a ≤ s) (hsm : s ≤ m) (hme : m ≤ e) (heb : e ≤ b) (hmid : s + (e - m) = mid)
    (c1 : s < m → m < e → T d[e - 1]! d[s]! = true) (c2 : a < s → e < b → T d[e]! d[s - 1]! = false) (hR : Rt s m e d d1) (hP : PermIn a b d d1)
    (hp2 : PermIn a mid d1 d2) (hs2 : SortedIn T a mid d2) (hp3 : PermIn mid b d2 d3) (hs3 : SortedIn T mid b d3) : PermIn a b d d3 ∧ SortedIn T a b d3 := by
  have hz1 : d1.size = d.size := hP.1
  have hz2 : d2.size = d.size := hp2.1.trans hz1
  have el : ∀ x, a ≤ x → x < s → d1[x]! = d[x]! := fun x h1 h2 => by rw [hR.2 x, if_neg (by omega), if_neg (by omega)]
  have em : ∀ x, s ≤ x → x < mid → d1[x]! = d[x - s + m]! := fun x h1 h2 => by rw [hR.2 x, if_pos (by omega)]
  have en : ∀ x, mid ≤ x → x < e → d1[x]! = d[x - (e - m)]! := fun x h1 h2 => by rw [hR.2 x, if_neg (by omega), if_pos (by omega)]
  have er : ∀ x, e ≤ x → d1[x]! = d[x]! := fun x h1 => by rw [hR.2 x, if_neg (by omega), if_neg (by omega)]
  have hcross : ∀ x, a ≤ x → x < mid → ∀ y, mid ≤ y → y < b → T d1[y]! d1[x]! = false := by
    intro x hax hxm y hmy hyb
    by_cases hx : x < s
    · rw [el x hax hx]
      by_cases hy : y < e
      · rw [en y hmy hy]; exact hl _ _ hax (by omega) (by omega)
      · rw [er y (by omega)]
        have h0 := c2 (by omega) (by omega)
        have h1 : T d[y]! d[e]! = false := by
          by_cases hye : y = e
          · rw [hye]; exact hO.irrefl _
          · exact hr _ _ hme (by omega) hyb
        have h2 : T d[s - 1]! d[x]! = false := by
          by_cases hye : s - 1 = x
          · rw [hye]; exact hO.irrefl _
          · exact hl _ _ hax (by omega) (by omega)
        refine hO.ntrans _ _ _ h1 (hO.ntrans _ _ _ h0 h2)
    · rw [em x (by omega) hxm]
      by_cases hy : y < e
      · rw [en y hmy hy]
        have h0 := c1 (by omega) (by omega)
        have h1 : T d[y - (e - m)]! d[s]! = false := by
          by_cases hye : y - (e - m) = s
          · rw [hye]; exact hO.irrefl _
          · exact hl _ _ has (by omega) (by omega)
        have h2 : T d[e - 1]! d[x - s + m]! = false := by
          by_cases hye : e - 1 = x - s + m
          · rw [hye]; exact hO.irrefl _
          · exact hr _ _ (by omega) (by omega) (by omega)
        exact hO.ntrans _ _ _ h1 (hO.ntrans _ _ _ (asym hO h0) h2)
      · rw [er y (by omega)]; exact hr _ _ (by omega) (by omega) hyb
  have hc2 : ∀ x, a ≤ x → x < mid → ∀ y, mid ≤ y → y < b → T d2[y]! d2[x]! = false := by
    intro x hax hxm y hmy hyb
    rw [hp2.2.1 y (by omega)]
    exact permIn_all d1 d2 a mid (fun z => T d1[y]! z = false) (by omega) hp2 (fun i h1 h2 => hcross i h1 h2 y hmy hyb) x hax hxm
  have hc3 : ∀ x, a ≤ x → x < mid → ∀ y, mid ≤ y → y < b → T d3[y]! d3[x]! = false := by
    intro x hax hxm y hmy hyb
    rw [hp3.2.1 x (by omega)]
    exact permIn_all d2 d3 mid b (fun z => T z d2[x]! = false) (by omega) hp3 (fun i h1 h2 => hc2 x hax hxm i h1 h2) y hmy hyb
  refine ⟨permIn_trans _ _ _ _ _ hP (permIn_trans _ _ _ _ _ (permIn_mono d1 d2 a mid a b (Nat.le_refl _) (by omega) (by omega) hp2) (permIn_mono d2 d3 mid b a b (by omega) (Nat.le_refl _) (by omega) hp3)), ?_⟩
  intro x y hax hxy hyb
  by_cases hy : y < mid
  · rw [hp3.2.1 x (by omega), hp3.2.1 y (by omega)]; exact hs2 x y hax hxy hy
  · by_cases hx : x < mid
    · exact hc3 x hax hx y (by omega) hyb
    · exact hs3 x y (by omega) hxy hyb
/-- The parts that are merged next. -/
theorem parts_left {a m b s e mid : Nat} {lt : α → α → Bool} {d d1 : Array α} (hl : SortedIn T a m d) (hr : SortedIn T m b d) (hf : Fair lt T a m b d) (has : a ≤ s) (hsm : s ≤ m) (hme : m ≤ e) (heb : e ≤ b) (hmid : s + (e - m) = mid) (hR : Rt s m e d d1) :
    SortedIn T a s d1 ∧ SortedIn T s mid d1 ∧ Fair lt T a s mid d1 ∧ SortedIn T mid e d1 ∧ SortedIn T e b d1 ∧ Fair lt T mid e b d1 := by
  have el : ∀ x, a ≤ x → x < s → d1[x]! = d[x]! := fun x h1 h2 => by rw [hR.2 x, if_neg (by omega), if_neg (by omega)]
  have em : ∀ x, s ≤ x → x < mid → d1[x]! = d[x - s + m]! := fun x h1 h2 => by rw [hR.2 x, if_pos (by omega)]
  have en : ∀ x, mid ≤ x → x < e → d1[x]! = d[x - (e - m)]! := fun x h1 h2 => by rw [hR.2 x, if_neg (by omega), if_pos (by omega)]
  have er : ∀ x, e ≤ x → d1[x]! = d[x]! := fun x h1 => by rw [hR.2 x, if_neg (by omega), if_neg (by omega)]
  refine ⟨fun i j h1 h2 h3 => ?_, fun i j h1 h2 h3 => ?_, fun i j h1 h2 h3 h4 => ?_, fun i j h1 h2 h3 => ?_, fun i j h1 h2 h3 => ?_, fun i j h1 h2 h3 h4 => ?_⟩
  · rw [el i h1 (by omega), el j (by omega) h3]; exact hl _ _ h1 h2 (by omega)
  · rw [em i h1 (by omega), em j (by omega) h3]; exact hr _ _ (by omega) (by omega) (by omega)
  · rw [el i h1 h2, em j h3 h4]; exact hf _ _ h1 (by omega) (by omega) (by omega)
  · rw [en i h1 (by omega), en j (by omega) h3]; exact hl _ _ (by omega) (by omega) (by omega)
  · rw [er i h1, er j (by omega)]; exact hr _ _ (by omega) h2 h3
  · rw [en i h1 h2, er j h3]; exact hf _ _ (by omega) (by omega) (by omega) (by omega)
end Go.Proofs.YtkldnapbeebdkaaDoor.st
/- The library's own texts that a call comes to, as this program has them: laid on the shelf's. -/
namespace Go.Proofs.YtkldnapbeebdkaaDoor.layS
open Go.Shelf
def rf : FuncId → FuncId
  | 0 => 0
  | 1 => 1
  | 2 => 2
  | 11 => 22
  | 18 => 37
  | 20 => 52
  | 60 => 81
  | 61 => 82
  | 62 => 83
  | 63 => 84
  | 64 => 85
  | 65 => 86
  | 66 => 87
  | 67 => 88
  | 68 => 89
  | 69 => 90
  | 70 => 91
  | 71 => 92
  | 72 => 93
  | 73 => 96
  | 74 => 97
  | 75 => 108
  | x => x
def rt : TypeId → TypeId
  | 0 => 0
  | 1 => 1
  | 2 => 2
  | 3 => 3
  | 4 => 4
  | 5 => 5
  | 6 => 6
  | 7 => 7
  | 8 => 8
  | 9 => 9
  | 10 => 10
  | 11 => 11
  | 12 => 12
  | 13 => 13
  | 14 => 14
  | 15 => 15
  | 16 => 16
  | 17 => 17
  | 18 => 18
  | 19 => 19
  | 20 => 20
  | 21 => 21
  | 22 => 45
  | 23 => 50
  | 24 => 49
  | 25 => 52
  | 27 => 22
  | 29 => 51
  | 37 => 107
  | 39 => 59
  | 42 => 74
  | 44 => 106
  | 53 => 147
  | 55 => 54
  | 81 => 140
  | 82 => 141
  | 83 => 142
  | 84 => 143
  | 85 => 144
  | 86 => 145
  | 87 => 86
  | 88 => 148
  | 89 => 124
  | 90 => 149
  | 91 => 150
  | 92 => 151
  | 93 => 152
  | 94 => 153
  | 95 => 154
  | 96 => 76
  | x => x
def ren : Ren := ⟨rf, rt, fun x => x⟩
set_option maxRecDepth 100000 in
theorem laid : SlLaysF0.n20 Tryd.prog ren where
  mixed := by kernel_rfl
  f20 := Exists.intro "slices.insertionSortCmpFunc[escritoire/huff.group]" ⟨by kernel_rfl, by kernel_rfl⟩
  t0 := by kernel_rfl
  a0 := fun _ => by kernel_rfl
  z0 := fun _ => by kernel_rfl
  v0 := fun _ => by kernel_rfl
  t3 := by kernel_rfl
  a3 := fun _ => by kernel_rfl
  z3 := fun _ => by kernel_rfl
  v3 := fun _ => by kernel_rfl
  t4 := by kernel_rfl
  a4 := fun _ => by kernel_rfl
  z4 := fun _ => by kernel_rfl
  v4 := fun _ => by kernel_rfl
  t22 := by kernel_rfl
  a22 := fun _ => by kernel_rfl
  z22 := fun _ => by kernel_rfl
  v22 := fun _ => by kernel_rfl
  t25 := by kernel_rfl
  a25 := fun _ => by kernel_rfl
  z25 := fun _ => by kernel_rfl
  v25 := fun _ => by kernel_rfl
end Go.Proofs.YtkldnapbeebdkaaDoor.layS
