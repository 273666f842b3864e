/- The document's DiffFar; its edits, byte by byte. -/
import Derived.Test.YtoiiphkcpdphbaaDoorDfT
import Derived.Test.YtoiiphkcpdphbaaDoorDf6
namespace Go.Proofs.YtoiiphkcpdphbaaDoor.df
set_option linter.unusedVariables false
open Go.ChangeShapes Go.WideShapes Go.ChangeAt Go.RowKit
open mem
theorem Whole.get {w : World} {T : Nat} {a b : ByteArray} (h : Whole w T a b) : ∃ G : Nat → Nat, (∀ x, x ≤ a.size → w.cell? ⟨T, x, none⟩ = some (.slice (some ⟨G x, 0, none⟩) (b.size + 1) (b.size + 1))) ∧ ∀ x y, x ≤ a.size → y ≤ b.size → w.cell? ⟨G x, y, none⟩ = some (.int .i64 (kp a b x y : Int)) := by
  obtain ⟨rs, G, ls, h1, h2⟩ := h
  refine ⟨G, fun x hx => h1.ptr x (Nat.zero_le _) hx, fun x y hx hy => ?_⟩
  rw [(h1.row x (Nat.zero_le _) hx).cell (by rw [h1.len x (Nat.zero_le _) hx]; omega), h2 x y (Nat.zero_le _) hx hy]
theorem Whole.step {w w' : World} {T : Nat} {a b : ByteArray} (h : Whole w T a b) (hb : Bl w w') : Whole w' T a b := by
  obtain ⟨rs, G, ls, h1, h2⟩ := h
  exact ⟨rs, G, ls, h1.step hb, h2⟩
theorem kp_zero (a b : ByteArray) : kp a b 0 0 = lcs (L a) (L b) := rfl
set_option maxHeartbeats 1000000 in
set_option maxRecDepth 10000 in
theorem refFar_at (a b : ByteArray) (w : World) (hab : a.size + b.size ≤ 4000) :
    Calls Tryd.prog 6 #[.string a, .string b] w fun e w' => e = .returned (.tuple #[.int .i64 (far (L a) (L b) : Int), .int .i64 0]) ∧ Bl w w' := by
  have hnl : ¬ 4000 < (a.size : Int) + (b.size : Int) := by omega
  have hf := far_eq (L a) (L b)
  rw [L_len, L_len] at hf
  obtain ⟨F, hF⟩ : ∃ F, far (L a) (L b) = F := ⟨_, rfl⟩
  rw [hF] at hf ⊢
  have hk := kp_le a b 0 0
  rw [← kp_zero] at hf
  have hfz : (a.size : Int) + (b.size : Int) - 2 * (kp a b 0 0 : Int) = (F : Int) := hf.symm
  clear hf hF
  go_enter Tryd.func6, Tryd.ntmps6
  go_wp2_with fail
  refine (common_at a b w hab).mono ?_
  rintro e w1 ⟨T, rfl, hW, hb1⟩
  obtain ⟨G, g1, g2⟩ := hW.get
  have c1 := g1 0 (Nat.zero_le _)
  have c2 := g2 0 0 (Nat.zero_le _) (Nat.zero_le _)
  clear g1 g2 hW
  generalize kp a b 0 0 = k0 at *
  generalize G 0 = g at *
  go_wp2
  go_ret2
  exact ⟨rfl, hb1⟩
/-- The document's row of edits, byte by byte, as far as it is. -/
def Rs (a b : ByteArray) (I J : Nat) (l : List Ed) : Prop := l ++ sf a b I J = sf a b 0 0 ∧ I ≤ a.size ∧ J ≤ b.size
theorem sf_len (a b : ByteArray) : (sf a b 0 0).length ≤ a.size + b.size := by
  have := st_len (L a) (L b)
  rw [L_len, L_len] at this
  exact this
theorem Rs.len {a b : ByteArray} {I J : Nat} {l : List Ed} (h : Rs a b I J l) : l.length ≤ a.size + b.size := by
  have h1 := sf_len a b
  rw [← h.1, List.length_append] at h1
  omega
theorem Rs.keep {a b : ByteArray} {I J : Nat} {l : List Ed} (h : Rs a b I J l) (hi : I < a.size) (hj : J < b.size) (he : sb a I = sb b J) : Rs a b (I + 1) (J + 1) (l ++ [⟨1, 1, []⟩]) := by
  refine ⟨?_, hi, hj⟩
  rw [← h.1, sf_keep a b I J hi hj he, List.append_assoc]; rfl
theorem Rs.take {a b : ByteArray} {I J : Nat} {l : List Ed} (h : Rs a b I J l) (hi : I < a.size) (hc : J = b.size ∨ (sb a I ≠ sb b J ∧ J < b.size ∧ kp a b (I + 1) J = kp a b I J)) : Rs a b (I + 1) J (l ++ [⟨2, 1, []⟩]) := by
  refine ⟨?_, hi, h.2.2⟩
  rcases hc with rfl | ⟨h1, h2, h3⟩
  · rw [← h.1, sf_take a b I hi, List.append_assoc]; rfl
  · have h4 := kp_else a b I J hi h2 h1
    rw [← h.1, sf_take' a b I J hi h2 h1 (by omega), List.append_assoc]; rfl
theorem Rs.give {a b : ByteArray} {I J : Nat} {l : List Ed} (h : Rs a b I J l) (hj : J < b.size) (hc : I = a.size ∨ (sb a I ≠ sb b J ∧ I < a.size ∧ kp a b (I + 1) J ≠ kp a b I J)) : Rs a b I (J + 1) (l ++ [⟨3, 0, ((L b).take (J + 1)).drop J⟩]) := by
  refine ⟨?_, h.2.1, hj⟩
  have key : ∀ y, (L b).drop J = y :: (L b).drop (J + 1) → ((L b).take (J + 1)).drop J = [y] := fun y hy => by
    rw [List.drop_take, show J + 1 - J = 1 by omega, hy]; rfl
  rcases hc with rfl | ⟨h1, h2, h3⟩
  · obtain ⟨y, hy, hz⟩ := sf_give a b J hj
    rw [← h.1, hy, key y hz, List.append_assoc]; rfl
  · have h4 := kp_else a b I J h2 hj h1
    obtain ⟨y, hy, hz⟩ := sf_give' a b I J h2 hj h1 (by omega)
    rw [← h.1, hy, key y hz, List.append_assoc]; rfl
/-- What is under way, with the edits that are left. -/
def gr (c : Option Ed) (r : List Ed) : List Ed := match c with | none => grp r | some x => grp (x :: r)
/-- The document's row of edits together, as far as it is. -/
def Gp (l : List Ed) (k : Nat) (d : List Ed) (c : Option Ed) : Prop := d ++ gr c (l.drop k) = grp l ∧ (d ++ c.toList).length ≤ k ∧ (c = none → d = []) ∧ ∀ x, c = some x → 0 ≤ x.n ∧ x.n ≤ 5000 * k ∧ x.t.length ≤ 5000 * k
theorem Gp.zero (l : List Ed) : Gp l 0 [] none := ⟨rfl, by simp, fun _ => rfl, fun x h => by cases h⟩
theorem Gp.first {l : List Ed} {k : Nat} {d : List Ed} (h : Gp l k d none) (hk : k < l.length) (hs : 0 ≤ l[k].n ∧ l[k].n ≤ 5000 ∧ l[k].t.length ≤ 5000) : Gp l (k + 1) [] (some l[k]) := by
  obtain ⟨h1, h2, h3, h4⟩ := h
  rw [List.drop_eq_getElem_cons hk, h3 rfl] at h1
  exact ⟨h1, by simp, fun h => (by cases h), fun x hx => (by injection hx with hx; subst hx; omega)⟩
theorem Gp.same {l : List Ed} {k : Nat} {d : List Ed} {x : Ed} (h : Gp l k d (some x)) (hk : k < l.length) (hs : 0 ≤ l[k].n ∧ l[k].n ≤ 5000 ∧ l[k].t.length ≤ 5000) (hw : x.w = l[k].w) : Gp l (k + 1) d (some ⟨x.w, x.n + l[k].n, x.t ++ l[k].t⟩) := by
  obtain ⟨h1, h2, h3, h4⟩ := h
  have := h4 x rfl
  rw [List.drop_eq_getElem_cons hk] at h1
  refine ⟨?_, by simp at h2 ⊢; omega, fun h => (by cases h), fun y hy => (by injection hy with hy; subst hy; simp; omega)⟩
  rw [← h1]
  show d ++ grp (mrg x l[k] :: _) = d ++ grp (x :: l[k] :: _)
  rw [grp_merge _ _ _ hw]
theorem Gp.other {l : List Ed} {k : Nat} {d : List Ed} {x : Ed} (h : Gp l k d (some x)) (hk : k < l.length) (hs : 0 ≤ l[k].n ∧ l[k].n ≤ 5000 ∧ l[k].t.length ≤ 5000) (hw : x.w ≠ l[k].w) : Gp l (k + 1) (d ++ [x]) (some l[k]) := by
  obtain ⟨h1, h2, h3, h4⟩ := h
  rw [List.drop_eq_getElem_cons hk] at h1
  refine ⟨?_, by simp at h2 ⊢; omega, fun h => (by cases h), fun y hy => (by injection hy with hy; subst hy; omega)⟩
  rw [← h1]
  show (d ++ [x]) ++ grp (l[k] :: _) = d ++ grp (x :: l[k] :: _)
  rw [grp_apart _ _ _ hw, List.append_assoc]; rfl
theorem Gp.end {l : List Ed} {d : List Ed} {c : Option Ed} (h : Gp l l.length d c) : d ++ c.toList = grp l := by
  rw [← h.1, List.drop_of_length_le (Nat.le_refl _)]
  cases c with
  | none => rfl
  | some x => rfl
end Go.Proofs.YtoiiphkcpdphbaaDoor.df
