/- Texts laid together: TmI, TmJ, TmK, TmL. -/
import Derived.Test.YtpanodaecjlgaaaZ12
import Derived.Test.YtpanodaecjlgaaaZ17
import Derived.BigQuiet
import Derived.Test.YtpanodaecjlgaaaZ10
/- Templates, printed: what an item begins with. -/
namespace Go.Proofs.Ytpanodaecjlgaaa.tm
set_option linter.unusedVariables false
open Go.ChangeShapes Go.WideShapes Go.ChangeAt Go.RowKit Go.Shelf
open mem lx ex

/-- What an item begins with: no such number before this one. -/
def noW (d : D) (j : Nat) : Prop := ∀ p ∈ numW.take j, (p.2.1 == d.wd && p.2.2.1 == d.od && p.2.2.2 == d.sg) = false
theorem kw_no {d : D} (h2 : d.kd ≠ 2) (h3 : d.kd ≠ 3) (h : noW d 12) : kw d = [] := by
  unfold kw
  rw [if_neg h2, if_neg h3]
  have : numW.find? (fun p => p.2.1 == d.wd && p.2.2.1 == d.od && p.2.2.2 == d.sg) = none := by
    rw [List.find?_eq_none]
    intro p hp
    rw [h p hp]; decide
  rw [this]; rfl
theorem kw_yes {d : D} (h2 : d.kd ≠ 2) (h3 : d.kd ≠ 3) {j : Nat} {p : List UInt8 × Nat × Nat × Bool} (h : noW d j) (hp : numW[j]? = some p) (hm : (p.2.1 == d.wd && p.2.2.1 == d.od && p.2.2.2 == d.sg) = true) : kw d = p.1 := by
  unfold kw
  rw [if_neg h2, if_neg h3]
  obtain ⟨hj, he⟩ := List.getElem?_eq_some_iff.1 hp
  have : numW.find? (fun p => p.2.1 == d.wd && p.2.2.1 == d.od && p.2.2.2 == d.sg) = some p := by
    rw [List.find?_eq_some_iff_getElem]
    refine ⟨hm, j, hj, he, fun k hk => ?_⟩
    have hm2 : numW[k]'(by omega) ∈ numW.take j := by
      rw [List.mem_take_iff_getElem]
      exact ⟨k, by omega, rfl⟩
    rw [h _ hm2]; decide
  rw [this]; rfl
theorem noW_step {d : D} {j : Nat} {p : List UInt8 × Nat × Nat × Bool} (h : noW d j) (hp : numW[j]? = some p) (hm : (p.2.1 == d.wd && p.2.2.1 == d.od && p.2.2.2 == d.sg) = false) : noW d (j + 1) := by
  intro q hq
  rw [List.take_add_one, List.mem_append] at hq
  rcases hq with hq | hq
  · exact h q hq
  · rw [hp] at hq
    simp at hq
    rw [hq]; exact hm
end Go.Proofs.Ytpanodaecjlgaaa.tm
/- Templates, printed: an item that has no others. -/
namespace Go.Proofs.Ytpanodaecjlgaaa.tm
set_option linter.unusedVariables false
open Go.ChangeShapes Go.WideShapes Go.ChangeAt Go.RowKit Go.Shelf
open mem lx ex

theorem kw_len {d : D} (h : WD d) (h4 : d.kd ≠ 4) : (kw d).length ≤ 12 := by
  unfold kw
  rcases h with h | h | h | h
  · exact absurd h.1 h4
  · rw [if_pos h.1]; decide
  · rw [if_neg (by rw [h.1]; decide), if_pos h.1]; exact h.2.1.2.2.1
  · rw [if_neg (by rw [h.1]; decide), if_neg (by rw [h.1]; decide)]
    have key : ∀ p ∈ numW, p.1.length ≤ 12 := by decide
    cases hf : numW.find? (fun p => p.2.1 == d.wd && p.2.2.1 == d.od && p.2.2.2 == d.sg) with
    | none => exact Nat.zero_le _
    | some p => exact key p (List.mem_of_find?_eq_some hf)
theorem ret_s {s s' : ByteArray} (h : s = s') : Ending.returned (.string s) = .returned (.string s') := by rw [h]
end Go.Proofs.Ytpanodaecjlgaaa.tm
/- Templates, printed: items in their brackets. -/
namespace Go.Proofs.Ytpanodaecjlgaaa.tm
set_option linter.unusedVariables false
open Go.ChangeShapes Go.WideShapes Go.ChangeAt Go.RowKit Go.Shelf
open mem lx ex bld

def Its.ps : Its → List (D × Its)
  | .nil => []
  | .cons d s t => (d, s) :: t.ps
theorem Its.ps_len (l : Its) : l.ps.length = l.len := by
  induction l with
  | nil => rfl
  | cons d s t _ it => simp [Its.ps, Its.len, it]
/-- An item as text. -/
def itx1 (pad : List UInt8) (e : D × Its) : List UInt8 := pad ++ [32, 32] ++ (if e.1.kd = 4 then wWhen ++ [32] ++ txO e.1.ct ++ [32, 123, 10] ++ itx (pad ++ [32, 32]) e.2 ++ pad ++ [32, 32, 125, 10] else paT e.1 ++ [59, 10])
theorem itx_ps (pad : List UInt8) (l : Its) : itx pad l = l.ps.flatMap (itx1 pad) := by
  induction l with
  | nil => rfl
  | cons d s t _ it => rw [itx, Its.ps, List.flatMap_cons, ← it]; rfl
def pre1 (pad : List UInt8) (l : Its) (j : Nat) : List UInt8 := (l.ps.take j).flatMap (itx1 pad)
theorem pre1_step (pad : List UInt8) (l : Its) (j : Nat) (e : D × Its) (h : l.ps[j]? = some e) : pre1 pad l (j + 1) = pre1 pad l j ++ itx1 pad e := by
  unfold pre1
  rw [List.take_add_one, h, List.flatMap_append]
  simp
theorem pre1_all (pad : List UInt8) (l : Its) : pre1 pad l l.len = itx pad l := by
  unfold pre1
  rw [← Its.ps_len, List.take_length, itx_ps]
theorem pre1_len (pad : List UInt8) (l : Its) (j : Nat) : (pre1 pad l j).length ≤ (itx pad l).length := by
  rw [itx_ps]
  conv => rhs; rw [← List.take_append_drop j l.ps, List.flatMap_append, List.length_append]
  exact Nat.le_add_right _ _
theorem Rep.at {w : World} {ok : Nat → Prop} {l : Its} : ∀ {cs : List C}, Rep w ok l cs → ∀ j, j < l.len → ∃ c d s, cs[j]? = some c ∧ l.ps[j]? = some (d, s) ∧ c.d = d ∧ IsO w c.pc d.ct ∧ ∃ cs2, ir.Lie w ok c.p c.n c.c cs2 ∧ Rep w ok s cs2 := by
  induction l with
  | nil => intro cs h j hj; exact absurd hj (Nat.not_lt_zero _)
  | cons d s t _ it =>
    intro cs h j hj
    obtain ⟨c, r, rfl, h2, h3, h4, h6⟩ := h
    cases j with
    | zero => exact ⟨c, d, s, rfl, rfl, h2, h3, h4⟩
    | succ j =>
      obtain ⟨c', d', s', k1, k2, k3⟩ := it h6 j (by simp [Its.len] at hj; omega)
      exact ⟨c', d', s', by simpa using k1, by simpa [Its.ps] using k2, k3⟩
theorem WI.at {k : Nat} {l : Its} (h : WI k l) : ∀ (j : Nat) (d : D) (s : Its), l.ps[j]? = some (d, s) → WD d ∧ (d.kd ≠ 4 → noSub s = true) ∧ (d.kd = 4 → 0 < k ∧ s.len ≤ 16 ∧ WI (k - 1) s) := by
  induction l with
  | nil => intro j d s hj; cases hj
  | cons d s t _ it =>
    intro j d' s' hj
    obtain ⟨w1, w2, w3, w4⟩ := h
    cases j with
    | zero => simp [Its.ps] at hj; obtain ⟨rfl, rfl⟩ := hj; exact ⟨w1, w2, w3⟩
    | succ j => exact it w4 j d' s' (by simpa [Its.ps] using hj)
theorem Rep.low {w w' : World} {B : Nat} {l : Its} {cs : List C} (h : Rep w (fun g => g < B) l cs) (hb : Below B w w') (hx : Kx w w') : Rep w' (fun g => g < B) l cs := h.keep (fun g hg _ => hb.block g hg) hb.size hx
theorem lie_low {w w' : World} {B : Nat} {p : Option Addr} {n c : Nat} {cs : List C} (h : ir.Lie w (fun g => g < B) p n c cs) (hb : Below B w w') : ir.Lie w' (fun g => g < B) p n c cs := h.keep (fun g hg _ => hb.block g hg) hb.size
theorem lie_at {w : World} {ok : Nat → Prop} {p : Option Addr} {n c : Nat} {l : List C} (h : ir.Lie w ok p n c l) (k : Nat) (y : C) (hy : l[k]? = some y) : ∃ x : Addr, p = some x ∧ ok x.block ∧ w.cell? (x.add (k * 13)) = (cl y)[0]? ∧ ∀ j u, (cl y)[j]? = some u → w.cell? ⟨(x.add (k * 13)).block, (x.add (k * 13)).off + j, none⟩ = some u := by
  obtain ⟨hk, hy'⟩ := List.getElem?_eq_some_iff.1 hy
  obtain ⟨x, e1, e2, e3, e4⟩ := h.at k hk
  rw [hy'] at e4
  refine ⟨x, e1, e3, ?_, e4⟩
  have h0 := e4 0 _ rfl
  obtain ⟨_, _, h3⟩ := h
  rcases h3 with h3 | ⟨g, e, _⟩
  · subst h3; exact absurd hk (Nat.not_lt_zero _)
  · rw [e] at e1
    injection e1 with e1
    subst e1
    rw [Addr.add_lit] at h0 ⊢
    exact h0
theorem Iv.kb {w w' : World} {b M : Nat} {c : C} (h : Iv w M c) (hk : Kb b w w') (hne : M ≠ b) : Iv w' M c := ⟨hk.same M _ h.h hne (fun c fz e => by injection e with _ e2 _; exact absurd e2 (by decide))⟩
theorem txO_le {d : D} (h : WD d) (h4 : d.kd ≠ 4) : (txO d.ct).length ≤ (paT d).length := by
  have key : (d.mn = true ∨ d.kd = 2) → (txO d.ct).length ≤ (paT d).length := by
    intro hm
    unfold paT mnT
    rw [if_pos hm]
    simp only [List.length_append, List.length_cons, List.length_nil]
    omega
  rcases h with h | h | h | h
  · exact absurd h.1 h4
  · exact key (Or.inr h.1)
  · rcases h.2.2.2.2.2.2.2.2.2 with h' | h'
    · exact key (Or.inl h'.1)
    · rw [h'.2]; exact Nat.zero_le _
  · rcases h.2.2.2.2 with h' | h'
    · exact key (Or.inl h'.1)
    · rw [h'.2.1]; exact Nat.zero_le _
end Go.Proofs.Ytpanodaecjlgaaa.tm
/- Templates, printed. -/
namespace Go.Proofs.Ytpanodaecjlgaaa.tm
set_option linter.unusedVariables false
open Go.ChangeShapes Go.WideShapes Go.ChangeAt Go.RowKit Go.Shelf
open mem lx ex bld

def pre2 (l : List Ty) (j : Nat) : List UInt8 := (l.take j).flatMap tyx
theorem pre2_step (l : List Ty) (j : Nat) (t : Ty) (h : l[j]? = some t) : pre2 l (j + 1) = pre2 l j ++ tyx t := by
  unfold pre2
  rw [List.take_add_one, h, List.flatMap_append]
  simp
theorem pre2_all (l : List Ty) : pre2 l l.length = ptxt l := by
  unfold pre2
  rw [List.take_length]; rfl
theorem pre2_len (l : List Ty) (j : Nat) : (pre2 l j).length ≤ (ptxt l).length := by
  unfold ptxt
  conv => rhs; rw [← List.take_append_drop j l, List.flatMap_append, List.length_append]
  exact Nat.le_add_right _ _
theorem RepT.at {w : World} {ok : Nat → Prop} {l : List Ty} : ∀ {cs : List CT}, RepT w ok l cs → ∀ j, j < l.length → ∃ c t, cs[j]? = some c ∧ l[j]? = some t ∧ c.nm = t.nm ∧ c.a = t.at_ ∧ ∃ cs2, ir.Lie w ok c.p c.n c.c cs2 ∧ Rep w ok t.l cs2 := by
  induction l with
  | nil => intro cs h j hj; exact absurd hj (Nat.not_lt_zero _)
  | cons t l it =>
    intro cs h j hj
    obtain ⟨c, r, rfl, h2, h3, h4, h6⟩ := h
    cases j with
    | zero => exact ⟨c, t, rfl, rfl, h2, h3, h4⟩
    | succ j =>
      obtain ⟨c', t', k1, k2, k3⟩ := it h6 j (by simpa using hj)
      exact ⟨c', t', by simpa using k1, by simpa using k2, k3⟩
theorem lieT_low {w w' : World} {B : Nat} {p : Option Addr} {n c : Nat} {cs : List CT} (h : sr.Lie w (fun g => g < B) p n c cs) (hb : Below B w w') : sr.Lie w' (fun g => g < B) p n c cs := h.keep (fun g hg _ => hb.block g hg) hb.size
theorem lieT_at {w : World} {ok : Nat → Prop} {p : Option Addr} {n c : Nat} {l : List CT} (h : sr.Lie w ok p n c l) (k : Nat) (y : CT) (hy : l[k]? = some y) : ∃ x : Addr, p = some x ∧ ok x.block ∧ w.cell? (x.add (k * 3)) = (clT y)[0]? ∧ ∀ j u, (clT y)[j]? = some u → w.cell? ⟨(x.add (k * 3)).block, (x.add (k * 3)).off + j, none⟩ = some u := by
  obtain ⟨hk, hy'⟩ := List.getElem?_eq_some_iff.1 hy
  obtain ⟨x, e1, e2, e3, e4⟩ := h.at k hk
  rw [hy'] at e4
  refine ⟨x, e1, e3, ?_, e4⟩
  have h0 := e4 0 _ rfl
  obtain ⟨_, _, h3⟩ := h
  rcases h3 with h3 | ⟨g, e, _⟩
  · subst h3; exact absurd hk (Nat.not_lt_zero _)
  · rw [e] at e1
    injection e1 with e1
    subst e1
    rw [Addr.add_lit] at h0 ⊢
    exact h0
end Go.Proofs.Ytpanodaecjlgaaa.tm
