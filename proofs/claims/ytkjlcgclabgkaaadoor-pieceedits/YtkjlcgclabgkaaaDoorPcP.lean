/- Texts in pieces, by themselves: trees of pieces, what their pieces are in order, how deep they are, and pieces that are cut. -/
import Derived.Test.YtkjlcgclabgkaaaDoorMem
namespace Go.Proofs.YtkjlcgclabgkaaaDoor.pc
set_option linter.unusedVariables false

inductive Tr where
  | leaf
  | node (l : Tr) (s : ByteArray) (r : Tr)
/-- The pieces in their order. -/
def Tr.ps : Tr → List ByteArray
  | .leaf => []
  | .node l s r => l.ps ++ s :: r.ps
/-- How many stand at most one above the other. -/
def Tr.dp : Tr → Nat
  | .leaf => 0
  | .node l _ r => 1 + max l.dp r.dp
/-- Level: nowhere is one side deeper than the other one by more than 1. -/
def Tr.bal : Tr → Prop
  | .leaf => True
  | .node l _ r => l.bal ∧ r.bal ∧ l.dp ≤ r.dp + 1 ∧ r.dp ≤ l.dp + 1
/-- How many bytes pieces have. -/
def tot : List ByteArray → Nat
  | [] => 0
  | x :: l => x.size + tot l
/-- The bytes of pieces. -/
def cat : List ByteArray → List UInt8
  | [] => []
  | x :: l => x.data.toList ++ cat l
def fit (l : List ByteArray) : Prop := (∀ x, x ∈ l → 0 < x.size) ∧ tot l ≤ 1000000
theorem tot_app (a b : List ByteArray) : tot (a ++ b) = tot a + tot b := by
  induction a with
  | nil => simp [tot]
  | cons x l ih => simp [tot, ih]; omega
theorem cat_app (a b : List ByteArray) : cat (a ++ b) = cat a ++ cat b := by
  induction a with
  | nil => simp [cat]
  | cons x l ih => simp [cat, ih]
theorem bs_len (x : ByteArray) : x.data.toList.length = x.size := rfl
theorem cat_len (a : List ByteArray) : (cat a).length = tot a := by
  induction a with
  | nil => rfl
  | cons x l ih => simp [tot, cat, ih]
theorem tot_sub {a b : List ByteArray} (h : a.Sublist b) : tot a ≤ tot b := by
  induction h with
  | slnil => exact Nat.le_refl _
  | cons x _ ih => simp [tot]; omega
  | cons_cons x _ ih => simp [tot]; omega
theorem fit.sub {a b : List ByteArray} (h : fit b) (k : a.Sublist b) : fit a := ⟨fun x hx => h.1 x (k.subset hx), Nat.le_trans (tot_sub k) h.2⟩
theorem len_tot {a : List ByteArray} (h : ∀ x, x ∈ a → 0 < x.size) : a.length ≤ tot a := by
  induction a with
  | nil => exact Nat.le_refl _
  | cons x l ih =>
    have := h x (by simp)
    have := ih (fun y hy => h y (by simp [hy]))
    simp [tot]
    omega
theorem Tr.dp_le (t : Tr) : t.dp ≤ t.ps.length := by
  induction t with
  | leaf => exact Nat.le_refl _
  | node l s r ihl ihr => simp [Tr.dp, Tr.ps]; omega
theorem fit.len {a : List ByteArray} (h : fit a) : a.length ≤ 1000000 := Nat.le_trans (len_tot h.1) h.2
theorem fit.dp {t : Tr} (h : fit t.ps) : t.dp ≤ 1000000 := Nat.le_trans t.dp_le h.len
theorem dp_pos {t : Tr} (h : 0 < t.dp) : ∃ l s r, t = .node l s r := by
  cases t with
  | leaf => simp [Tr.dp] at h
  | node l s r => exact ⟨l, s, r, rfl⟩

/-- What becomes of a piece between two trees. -/
structure Jn (l : Tr) (s : ByteArray) (r t : Tr) : Prop where
  p : t.ps = l.ps ++ s :: r.ps
  b : l.bal → r.bal → t.bal ∧ l.dp ≤ t.dp ∧ r.dp ≤ t.dp ∧ t.dp ≤ 1 + max l.dp r.dp
structure Lv (l : Tr) (s : ByteArray) (r t : Tr) : Prop where
  p : t.ps = l.ps ++ s :: r.ps
  b : l.bal → r.bal → l.dp ≤ r.dp + 2 → r.dp ≤ l.dp + 2 → t.bal ∧ l.dp ≤ t.dp ∧ r.dp ≤ t.dp ∧ t.dp ≤ 1 + max l.dp r.dp ∧ (l.dp ≤ r.dp + 1 → r.dp ≤ l.dp + 1 → t.dp = 1 + max l.dp r.dp)
theorem lv_put {l : Tr} {s : ByteArray} {r : Tr} (h1 : l.dp ≤ r.dp + 1) (h2 : r.dp ≤ l.dp + 1) : Lv l s r (.node l s r) :=
  ⟨rfl, fun hl hr _ _ => ⟨⟨hl, hr, h1, h2⟩, by simp [Tr.dp]; omega, by simp [Tr.dp]; omega, by simp [Tr.dp], fun _ _ => rfl⟩⟩
theorem jn_put {l : Tr} {s : ByteArray} {r : Tr} (h1 : l.dp ≤ r.dp + 1) (h2 : r.dp ≤ l.dp + 1) : Jn l s r (.node l s r) :=
  ⟨rfl, fun hl hr => ⟨⟨hl, hr, h1, h2⟩, by simp [Tr.dp]; omega, by simp [Tr.dp]; omega, by simp [Tr.dp]⟩⟩
theorem lv_r1 {ll lr r : Tr} {a s : ByteArray} (hd : (Tr.node ll a lr).dp > r.dp + 1) (h : lr.dp ≤ ll.dp) : Lv (.node ll a lr) s r (.node ll a (.node lr s r)) :=
  ⟨by simp [Tr.ps], fun hl hr h1 h2 => by
    obtain ⟨k1, k2, k3, k4⟩ := hl
    simp only [Tr.dp] at *
    refine ⟨⟨k1, ⟨k2, hr, ?_, ?_⟩, ?_, ?_⟩, ?_, ?_, ?_, ?_⟩ <;> (try simp only [Tr.dp]) <;> omega⟩
theorem lv_r2 {ll il ir r : Tr} {a b s : ByteArray} (hd : (Tr.node ll a (.node il b ir)).dp > r.dp + 1) (h : ¬ (Tr.node il b ir).dp ≤ ll.dp) : Lv (.node ll a (.node il b ir)) s r (.node (.node ll a il) b (.node ir s r)) :=
  ⟨by simp [Tr.ps], fun hl hr h1 h2 => by
    obtain ⟨k1, ⟨k5, k6, k7, k8⟩, k3, k4⟩ := hl
    simp only [Tr.dp] at *
    refine ⟨⟨⟨k1, k5, ?_, ?_⟩, ⟨k6, hr, ?_, ?_⟩, ?_, ?_⟩, ?_, ?_, ?_, ?_⟩ <;> (try simp only [Tr.dp]) <;> omega⟩
theorem lv_l1 {l rl rr : Tr} {a s : ByteArray} (hd : (Tr.node rl a rr).dp > l.dp + 1) (h : rl.dp ≤ rr.dp) : Lv l s (.node rl a rr) (.node (.node l s rl) a rr) :=
  ⟨by simp [Tr.ps], fun hl hr h1 h2 => by
    obtain ⟨k1, k2, k3, k4⟩ := hr
    simp only [Tr.dp] at *
    refine ⟨⟨⟨hl, k1, ?_, ?_⟩, k2, ?_, ?_⟩, ?_, ?_, ?_, ?_⟩ <;> (try simp only [Tr.dp]) <;> omega⟩
theorem lv_l2 {l il ir rr : Tr} {a b s : ByteArray} (hd : (Tr.node (.node il b ir) a rr).dp > l.dp + 1) (h : ¬ (Tr.node il b ir).dp ≤ rr.dp) : Lv l s (.node (.node il b ir) a rr) (.node (.node l s il) b (.node ir a rr)) :=
  ⟨by simp [Tr.ps], fun hl hr h1 h2 => by
    obtain ⟨⟨k5, k6, k7, k8⟩, k2, k3, k4⟩ := hr
    simp only [Tr.dp] at *
    refine ⟨⟨⟨hl, k5, ?_, ?_⟩, ⟨k6, k2, ?_, ?_⟩, ?_, ?_⟩, ?_, ?_, ?_, ?_⟩ <;> (try simp only [Tr.dp]) <;> omega⟩
theorem jn_right {ll lr r t t' : Tr} {a s : ByteArray} (hd : (Tr.node ll a lr).dp > r.dp + 1) (h1 : Jn lr s r t) (h2 : Lv ll a t t') : Jn (.node ll a lr) s r t' :=
  ⟨by rw [h2.p, h1.p]; simp [Tr.ps], fun hl hr => by
    obtain ⟨k1, k2, k3, k4⟩ := hl
    obtain ⟨j1, j2, j3, j4⟩ := h1.b k2 hr
    simp only [Tr.dp] at *
    obtain ⟨m1, m2, m3, m4, m5⟩ := h2.b k1 j1 (by omega) (by omega)
    refine ⟨m1, ?_, ?_, ?_⟩ <;> omega⟩
theorem jn_left {l rl rr t t' : Tr} {a s : ByteArray} (hd : (Tr.node rl a rr).dp > l.dp + 1) (h1 : Jn l s rl t) (h2 : Lv t a rr t') : Jn l s (.node rl a rr) t' :=
  ⟨by rw [h2.p, h1.p]; simp [Tr.ps], fun hl hr => by
    obtain ⟨k1, k2, k3, k4⟩ := hr
    obtain ⟨j1, j2, j3, j4⟩ := h1.b hl k1
    simp only [Tr.dp] at *
    obtain ⟨m1, m2, m3, m4, m5⟩ := h2.b j1 k2 (by omega) (by omega)
    refine ⟨m1, ?_, ?_, ?_⟩ <;> omega⟩
/-- A level tree of many pieces isn't deep. -/
theorem bal_deep (t : Tr) (h : t.bal) : 2 ^ t.dp ≤ (t.ps.length + 1) * (t.ps.length + 1) := by
  induction t with
  | leaf => simp [Tr.dp, Tr.ps]
  | node l s r ihl ihr =>
    obtain ⟨h1, h2, h3, h4⟩ := h
    have i1 := ihl h1
    have i2 := ihr h2
    have e : (Tr.node l s r).ps.length + 1 = (l.ps.length + 1) + (r.ps.length + 1) := by simp [Tr.ps]; omega
    rw [e]
    generalize l.ps.length + 1 = M at *
    generalize r.ps.length + 1 = N at *
    simp only [Tr.dp]
    have key : ∀ X M N : Nat, X ≤ M * M → X ≤ N * N → X ≤ M * N := by
      intro X M N a b
      rcases Nat.le_total M N with c | c
      · exact Nat.le_trans a (Nat.mul_le_mul_left M c)
      · exact Nat.le_trans b (Nat.mul_le_mul_right N c)
    have ex : (M + N) * (M + N) = M * M + N * N + 2 * (M * N) := by
      rw [Nat.add_mul, Nat.mul_add, Nat.mul_add, Nat.mul_comm N M]; omega
    rw [ex]
    rcases Nat.lt_trichotomy l.dp r.dp with c | c | c
    · obtain ⟨d, hd⟩ : ∃ d, d = l.dp := ⟨_, rfl⟩
      have e2 : r.dp = d + 1 := by omega
      have e3 : 1 + max l.dp r.dp = d + 2 := by omega
      rw [e3]
      rw [e2] at i2
      rw [← hd] at i1
      have p1 : 2 ^ (d + 1) = 2 * 2 ^ d := by rw [Nat.pow_succ]; omega
      have p2 : 2 ^ (d + 2) = 4 * 2 ^ d := by rw [Nat.pow_succ, Nat.pow_succ]; omega
      rw [p1] at i2
      rw [p2]
      have := key (2 ^ d) M N i1 (by omega)
      omega
    · have e3 : 1 + max l.dp r.dp = l.dp + 1 := by omega
      rw [e3, Nat.pow_succ]
      rw [← c] at i2
      omega
    · obtain ⟨d, hd⟩ : ∃ d, d = r.dp := ⟨_, rfl⟩
      have e2 : l.dp = d + 1 := by omega
      have e3 : 1 + max l.dp r.dp = d + 2 := by omega
      rw [e3]
      rw [e2] at i1
      rw [← hd] at i2
      have p1 : 2 ^ (d + 1) = 2 * 2 ^ d := by rw [Nat.pow_succ]; omega
      have p2 : 2 ^ (d + 2) = 4 * 2 ^ d := by rw [Nat.pow_succ, Nat.pow_succ]; omega
      rw [p1] at i1
      rw [p2]
      have := key (2 ^ d) M N (by omega) i2
      omega

/-- The first k bytes of pieces, as pieces; what stands behind k bytes. -/
def takeP : Nat → List ByteArray → List ByteArray
  | _, [] => []
  | k, x :: l => if k = 0 then [] else if x.size ≤ k then x :: takeP (k - x.size) l else [x.extract 0 k]
def dropP : Nat → List ByteArray → List ByteArray
  | _, [] => []
  | k, x :: l => if k = 0 then x :: l else if x.size ≤ k then dropP (k - x.size) l else x.extract k x.size :: l
theorem ex_bytes (x : ByteArray) (i j : Nat) : (x.extract i j).data.toList = (x.data.toList.take j).drop i := by
  rw [ByteArray.data_extract, Array.toList_extract, List.extract_eq_take_drop, List.drop_take]
theorem ex_size (x : ByteArray) (i j : Nat) : (x.extract i j).size = min j x.size - i := by
  rw [← bs_len, ex_bytes]; simp
theorem takeP_zero (l : List ByteArray) : takeP 0 l = [] := by cases l <;> simp [takeP]
theorem dropP_zero (l : List ByteArray) : dropP 0 l = l := by cases l <;> simp [dropP]
theorem cat_take (k : Nat) (l : List ByteArray) : cat (takeP k l) = (cat l).take k := by
  induction l generalizing k with
  | nil => simp [takeP, cat]
  | cons x l ih =>
    unfold takeP
    split
    · next h => subst h; simp [cat]
    · split
      · next h => rw [cat, cat, ih, List.take_append, List.take_of_length_le (l := x.data.toList) (by rw [bs_len]; exact h), bs_len]
      · next h => rw [cat, cat, ex_bytes, cat, List.drop_zero, List.append_nil, List.take_append_of_le_length (by rw [bs_len]; omega)]
theorem cat_drop (k : Nat) (l : List ByteArray) : cat (dropP k l) = (cat l).drop k := by
  induction l generalizing k with
  | nil => simp [dropP, cat]
  | cons x l ih =>
    unfold dropP
    split
    · next h => subst h; simp [cat]
    · split
      · next h => rw [ih, cat, List.drop_append, List.drop_of_length_le (l := x.data.toList) (by rw [bs_len]; exact h), bs_len, List.nil_append]
      · next h => rw [cat, cat, ex_bytes, List.take_of_length_le (by rw [bs_len]; exact Nat.le_refl _), List.drop_append_of_le_length (by rw [bs_len]; omega)]
theorem takeP_ne {k : Nat} {l : List ByteArray} (h : ∀ x, x ∈ l → 0 < x.size) : ∀ x, x ∈ takeP k l → 0 < x.size := by
  induction l generalizing k with
  | nil => simp [takeP]
  | cons y l ih =>
    intro x hx
    unfold takeP at hx
    split at hx
    · simp at hx
    · split at hx
      · rcases List.mem_cons.1 hx with rfl | hx
        · exact h _ (by simp)
        · exact ih (fun z hz => h z (by simp [hz])) x hx
      · simp at hx
        subst hx
        rw [ex_size]
        have := h y (by simp)
        omega
theorem dropP_ne {k : Nat} {l : List ByteArray} (h : ∀ x, x ∈ l → 0 < x.size) : ∀ x, x ∈ dropP k l → 0 < x.size := by
  induction l generalizing k with
  | nil => simp [dropP]
  | cons y l ih =>
    intro x hx
    unfold dropP at hx
    split at hx
    · exact h x hx
    · split at hx
      · exact ih (fun z hz => h z (by simp [hz])) x hx
      · rcases List.mem_cons.1 hx with rfl | hx
        · rw [ex_size]
          omega
        · exact h x (by simp [hx])
theorem tot_take (k : Nat) (l : List ByteArray) : tot (takeP k l) = min k (tot l) := by rw [← cat_len, cat_take, List.length_take, cat_len]
theorem tot_drop (k : Nat) (l : List ByteArray) : tot (dropP k l) = tot l - k := by rw [← cat_len, cat_drop, List.length_drop, cat_len]
theorem fit.take {l : List ByteArray} (h : fit l) (k : Nat) : fit (takeP k l) := ⟨takeP_ne h.1, by rw [tot_take]; have := h.2; omega⟩
theorem fit.drop {l : List ByteArray} (h : fit l) (k : Nat) : fit (dropP k l) := ⟨dropP_ne h.1, by rw [tot_drop]; have := h.2; omega⟩
/-- Cut at two places there is one piece more at most. -/
theorem cut_len (a b : Nat) (l : List ByteArray) (h : a ≤ b) : (takeP a l).length + (dropP b l).length ≤ l.length + 1 := by
  induction l generalizing a b with
  | nil => simp [takeP, dropP]
  | cons x l ih =>
    have e0 : ∀ b, (dropP b (x :: l)).length ≤ l.length + 1 := by
      intro b
      unfold dropP
      split
      · simp
      · split
        · have := ih 0 (b - x.size) (Nat.zero_le _)
          omega
        · simp
    unfold takeP
    split
    · have := e0 b
      simp
      omega
    · split
      · have := ih (a - x.size) (b - x.size) (by omega)
        unfold dropP
        rw [if_neg (by omega), if_pos (by omega)]
        simp
        omega
      · have := e0 b
        simp
        omega
theorem takeP_all {l : List ByteArray} (k : Nat) (h : tot l ≤ k) (hn : ∀ x, x ∈ l → 0 < x.size) : takeP k l = l := by
  induction l generalizing k with
  | nil => simp [takeP]
  | cons x l ih =>
    have := hn x (by simp)
    simp [tot] at h
    rw [takeP, if_neg (by omega), if_pos (by omega), ih _ (by omega) (fun y hy => hn y (by simp [hy]))]
theorem dropP_all {l : List ByteArray} (k : Nat) (h : tot l ≤ k) (hn : ∀ x, x ∈ l → 0 < x.size) : dropP k l = [] := by
  induction l generalizing k with
  | nil => simp [dropP]
  | cons x l ih =>
    have := hn x (by simp)
    simp [tot] at h
    rw [dropP, if_neg (by omega), if_pos (by omega), ih _ (by omega) (fun y hy => hn y (by simp [hy]))]
theorem takeP_app (a b : List ByteArray) (k : Nat) (hn : ∀ x, x ∈ a → 0 < x.size) : takeP k (a ++ b) = if k ≤ tot a then takeP k a else a ++ takeP (k - tot a) b := by
  induction a generalizing k with
  | nil =>
    simp [tot]
    intro h
    subst h
    simp [takeP_zero, takeP]
  | cons x l ih =>
    have h0 := hn x (by simp)
    rw [List.cons_append, takeP, takeP, tot]
    by_cases h1 : k = 0
    · subst h1; simp
    · rw [if_neg h1, if_neg h1]
      by_cases h2 : x.size ≤ k
      · rw [if_pos h2, if_pos h2, ih _ (fun y hy => hn y (by simp [hy]))]
        by_cases h3 : k ≤ x.size + tot l
        · rw [if_pos h3, if_pos (by omega)]
        · rw [if_neg h3, if_neg (by omega), List.cons_append]
          congr 3
          omega
      · rw [if_neg h2, if_neg h2, if_pos (by omega)]
theorem dropP_app (a b : List ByteArray) (k : Nat) (hn : ∀ x, x ∈ a → 0 < x.size) : dropP k (a ++ b) = if k < tot a then dropP k a ++ b else dropP (k - tot a) b := by
  induction a generalizing k with
  | nil => simp [tot]
  | cons x l ih =>
    have h0 := hn x (by simp)
    rw [List.cons_append, dropP, dropP, tot]
    by_cases h1 : k = 0
    · subst h1; rw [if_pos rfl, if_pos rfl, if_pos (by omega)]; rfl
    · rw [if_neg h1, if_neg h1]
      by_cases h2 : x.size ≤ k
      · rw [if_pos h2, if_pos h2, ih _ (fun y hy => hn y (by simp [hy]))]
        by_cases h3 : k < x.size + tot l
        · rw [if_pos h3, if_pos (by omega)]
        · rw [if_neg h3, if_neg (by omega)]
          congr 1
          omega
      · rw [if_neg h2, if_neg h2, if_pos (by omega)]; rfl
/-- Cut in a tree: at the left of its piece; in it or behind it. -/
theorem take_left {l r : Tr} {s : ByteArray} {k : Nat} (hf : fit (Tr.node l s r).ps) (h : k ≤ tot l.ps) : takeP k (Tr.node l s r).ps = takeP k l.ps := by
  rw [Tr.ps, takeP_app _ _ _ (fun x hx => hf.1 x (by simp [Tr.ps, hx])), if_pos h]
theorem ex_all (s : ByteArray) (j : Nat) (h : s.size ≤ j) : s.extract 0 j = s := by
  apply ByteArray.ext
  apply Array.ext'
  rw [ex_bytes, List.take_of_length_le (by rw [bs_len]; exact h)]
  rfl
theorem take_right {l r : Tr} {s : ByteArray} {k : Nat} (hf : fit (Tr.node l s r).ps) (h : ¬ k ≤ tot l.ps) :
    takeP k (Tr.node l s r).ps = l.ps ++ s.extract 0 (min k (tot l.ps + s.size) - tot l.ps) :: takeP (k - (tot l.ps + s.size)) r.ps := by
  rw [Tr.ps, takeP_app _ _ _ (fun x hx => hf.1 x (by simp [Tr.ps, hx])), if_neg h, takeP, if_neg (by omega)]
  by_cases h2 : s.size ≤ k - tot l.ps
  · rw [if_pos h2, ex_all _ _ (by omega)]
    congr 3
    omega
  · rw [if_neg h2, show k - (tot l.ps + s.size) = 0 by omega, takeP_zero, show min k (tot l.ps + s.size) - tot l.ps = k - tot l.ps by omega]
theorem drop_right {l r : Tr} {s : ByteArray} {k : Nat} (hf : fit (Tr.node l s r).ps) (h : tot l.ps + s.size ≤ k) : dropP k (Tr.node l s r).ps = dropP (k - (tot l.ps + s.size)) r.ps := by
  have h0 := hf.1 s (by simp [Tr.ps])
  rw [Tr.ps, dropP_app _ _ _ (fun x hx => hf.1 x (by simp [Tr.ps, hx])), if_neg (by omega), dropP, if_neg (by omega), if_pos (by omega)]
  congr 1
  omega
theorem ex_none (s : ByteArray) : s.extract 0 s.size = s := ex_all s _ (Nat.le_refl _)
theorem drop_left {l r : Tr} {s : ByteArray} {k : Nat} (hf : fit (Tr.node l s r).ps) (h : ¬ tot l.ps + s.size ≤ k) :
    dropP k (Tr.node l s r).ps = dropP k l.ps ++ s.extract (max k (tot l.ps) - tot l.ps) s.size :: r.ps := by
  have hn : ∀ x, x ∈ l.ps → 0 < x.size := fun x hx => hf.1 x (by simp [Tr.ps, hx])
  rw [Tr.ps, dropP_app _ _ _ hn]
  by_cases h2 : k < tot l.ps
  · rw [if_pos h2, show max k (tot l.ps) - tot l.ps = 0 by omega, ex_none]
  · rw [if_neg h2, dropP_all k (by omega) hn, show max k (tot l.ps) - tot l.ps = k - tot l.ps by omega, List.nil_append, dropP]
    by_cases h3 : k - tot l.ps = 0
    · rw [if_pos h3, h3, ex_none]
    · rw [if_neg h3, if_neg (by omega)]
/-- The text of pieces. -/
def str (l : List ByteArray) : ByteArray := ⟨(cat l).toArray⟩
theorem str_ext {l m : List ByteArray} (h : cat l = cat m) : str l = str m := by unfold str; rw [h]
theorem str_size (l : List ByteArray) : (str l).size = tot l := by
  rw [← cat_len]; rfl
theorem str_is {l : List ByteArray} {s : ByteArray} (h : cat l = s.data.toList) : str l = s := by
  unfold str; rw [h]
/-- What an edit makes. -/
structure Ed (t : Tr) (a o : Nat) (s : ByteArray) (t' : Tr) : Prop where
  c : cat t'.ps = (cat t.ps).take a ++ s.data.toList ++ (cat t.ps).drop (a + o)
  f : fit t'.ps
  b : t.bal → t'.bal
  n : t'.ps.length ≤ t.ps.length + 2
theorem ed_join {t t1 t2 t' : Tr} {a o : Nat} {s : ByteArray} (hf : fit t.ps) (h1 : t1.ps = takeP a t.ps) (b1 : t.bal → t1.bal) (h2 : t2.ps = dropP (a + o) t.ps) (b2 : t.bal → t2.bal) (hs : 0 < s.size) (ho : a + o ≤ tot t.ps) (hz : tot t.ps - o + s.size ≤ 4000) (h : Jn t1 s t2 t') : Ed t a o s t' := by
  refine ⟨?_, ⟨?_, ?_⟩, fun h0 => (h.b (b1 h0) (b2 h0)).1, ?_⟩
  · rw [h.p, h1, h2, cat_app, cat, cat_take, cat_drop, List.append_assoc]
  · rw [h.p, h1, h2]
    intro x hx
    rcases List.mem_append.1 hx with hx | hx
    · exact takeP_ne hf.1 x hx
    · rcases List.mem_cons.1 hx with rfl | hx
      · exact hs
      · exact dropP_ne hf.1 x hx
  · rw [h.p, h1, h2, tot_app, tot, tot_take, tot_drop]
    have := hf.2
    omega
  · have := cut_len a (a + o) t.ps (by omega)
    rw [h.p, h1, h2]
    simp
    omega
theorem ed_meet {t t1 t2 t' : Tr} {a o : Nat} {s : ByteArray} (hf : fit t.ps) (h1 : t1.ps = takeP a t.ps) (h2 : t2.ps = dropP (a + o) t.ps) (hs : s.size = 0) (hp : t'.ps = t1.ps ++ t2.ps) (hb : t.bal → t'.bal) : Ed t a o s t' := by
  have e : s.data.toList = [] := List.eq_nil_of_length_eq_zero hs
  refine ⟨?_, ⟨?_, ?_⟩, hb, ?_⟩
  · rw [hp, h1, h2, cat_app, cat_take, cat_drop, e, List.append_nil]
  · rw [hp, h1, h2]
    intro x hx
    rcases List.mem_append.1 hx with hx | hx
    · exact takeP_ne hf.1 x hx
    · exact dropP_ne hf.1 x hx
  · rw [hp, h1, h2, tot_app, tot_take, tot_drop]
    have := hf.2
    omega
  · have := cut_len a (a + o) t.ps (by omega)
    rw [hp, h1, h2]
    simp
    omega
theorem ed_same {t : Tr} {a : Nat} {s : ByteArray} (hf : fit t.ps) (hs : s.size = 0) : Ed t a 0 s t := by
  have e : s.data.toList = [] := List.eq_nil_of_length_eq_zero hs
  exact ⟨by rw [e, List.append_nil, Nat.add_zero, List.take_append_drop], hf, id, by omega⟩
end Go.Proofs.YtkjlcgclabgkaaaDoor.pc
