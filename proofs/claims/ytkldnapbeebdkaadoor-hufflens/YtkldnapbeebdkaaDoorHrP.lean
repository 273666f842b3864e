/- Groups joined in a list that isn't sorted: the first of the least numbers is taken out, twice. -/
import Derived.Test.YtkldnapbeebdkaaDoorHfP
namespace Go.Proofs.YtkldnapbeebdkaaDoor.hfp
set_option linter.unusedVariables false
/-- In both the groups of each number stand in like order. -/
def SE (a b : List G) : Prop := ∀ k : Int, a.filter (fun x => decide (x.1 = k)) = b.filter (fun x => decide (x.1 = k))
theorem SE.refl (a : List G) : SE a a := fun _ => rfl
theorem SE.symm {a b : List G} (h : SE a b) : SE b a := fun k => (h k).symm
theorem SE.trans {a b c : List G} (h : SE a b) (h' : SE b c) : SE a c := fun k => (h k).trans (h' k)
theorem SE.append {a b a' b' : List G} (h : SE a b) (h' : SE a' b') : SE (a ++ a') (b ++ b') := fun k => by
  rw [List.filter_append, List.filter_append, h k, h' k]
theorem SE.sort (l : List G) : SE (l.mergeSort leP) l := fun k => by
  have hp : (l.mergeSort leP).Perm l := List.mergeSort_perm l leP
  have hs : (l.filter fun x => decide (x.1 = k)).Pairwise (fun a b => leP a b = true) := by
    rw [List.pairwise_iff_forall_sublist]
    intro a b hab
    have ha := List.mem_filter.1 (hab.subset (by simp : a ∈ [a, b]))
    have hb := List.mem_filter.1 (hab.subset (by simp : b ∈ [a, b]))
    have h1 := of_decide_eq_true ha.2
    have h2 := of_decide_eq_true hb.2
    unfold leP
    rw [h1, h2]
    simp
  have hsub := List.sublist_mergeSort leP_trans leP_total hs List.filter_sublist
  have h2 := hsub.filter (fun x => decide (x.1 = k))
  rw [List.filter_filter] at h2
  simp only [Bool.and_self] at h2
  exact (h2.eq_of_length (hp.filter _).length_eq.symm).symm
theorem sorted_eq : ∀ (a b : List G), a.Pairwise (fun x y => leP x y = true) → b.Pairwise (fun x y => leP x y = true) → SE a b → a = b
  | [], b, _, _, h => by
    cases b with
    | nil => rfl
    | cons y b => have := h y.1; simp at this
  | x :: a, b, ha, hb, h => by
    cases b with
    | nil => have := h x.1; simp at this
    | cons y b =>
      rw [List.pairwise_cons] at ha hb
      have e : x.1 = y.1 := by
        have hx : x ∈ y :: b := by
          have : x ∈ (y :: b).filter (fun z => decide (z.1 = x.1)) := by rw [← h x.1]; simp
          exact (List.mem_filter.1 this).1
        have hy : y ∈ x :: a := by
          have : y ∈ (x :: a).filter (fun z => decide (z.1 = y.1)) := by rw [h y.1]; simp
          exact (List.mem_filter.1 this).1
        have h1 : y.1 ≤ x.1 := by
          rcases List.mem_cons.1 hx with rfl | hx
          · exact Int.le_refl _
          · exact of_decide_eq_true (hb.1 x hx)
        have h2 : x.1 ≤ y.1 := by
          rcases List.mem_cons.1 hy with rfl | hy
          · exact Int.le_refl _
          · exact of_decide_eq_true (ha.1 y hy)
        omega
      have hk := h x.1
      rw [List.filter_cons, List.filter_cons, if_pos (by simp), if_pos (by simp [e])] at hk
      injection hk with hxy _
      subst hxy
      have : a = b := sorted_eq a b ha.2 hb.2 fun k => by
        have := h k
        rw [List.filter_cons, List.filter_cons] at this
        split at this
        · injection this
        · exact this
      rw [this]
theorem sort_pw (l : List G) : (l.mergeSort leP).Pairwise (fun x y => leP x y = true) := List.pairwise_mergeSort leP_trans leP_total l
theorem SE.same {a b : List G} (h : SE a b) : a.mergeSort leP = b.mergeSort leP := sorted_eq _ _ (sort_pw a) (sort_pw b) (((SE.sort a).trans h).trans (SE.sort b).symm)
theorem hloop_SE {a b : List G} (h : SE a b) (f : Nat) (ls : List Int) : hloop f a ls = hloop f b ls := by
  cases f with
  | zero => rfl
  | succ f => rw [hloop, hloop, h.same]
/-- The first of the least numbers stands at k. -/
def Fl (l : List G) (k : Nat) : Prop := k < l.length ∧ (∀ i, i < l.length → (l.getD k (0, [])).1 ≤ (l.getD i (0, [])).1) ∧ ∀ i, i < k → (l.getD k (0, [])).1 < (l.getD i (0, [])).1
theorem get_d (l : List G) (i : Nat) (h : i < l.length) : l.getD i (0, []) = l[i] := by rw [List.getD_eq_getElem?_getD, List.getElem?_eq_getElem h]; rfl
theorem Fl.sort {l : List G} {k : Nat} (h : Fl l k) : l.mergeSort leP = l.getD k (0, []) :: (l.eraseIdx k).mergeSort leP := by
  obtain ⟨h1, h2, h3⟩ := h
  have hl : l = l.take k ++ l.getD k (0, []) :: l.drop (k + 1) := by
    rw [get_d l k h1, List.getElem_cons_drop h1, List.take_append_drop]
  have he : l.eraseIdx k = l.take k ++ l.drop (k + 1) := List.eraseIdx_eq_take_drop_succ l k
  have hmem : ∀ x ∈ l, (l.getD k (0, [])).1 ≤ x.1 := fun x hx => by
    obtain ⟨i, hi, rfl⟩ := List.mem_iff_getElem.1 hx
    have := h2 i hi
    rw [get_d l i hi] at this
    exact this
  generalize l.getD k (0, []) = g at *
  refine sorted_eq _ _ (sort_pw l) ?_ ((SE.sort l).trans fun n => ?_)
  · rw [List.pairwise_cons]
    refine ⟨fun x hx => ?_, sort_pw _⟩
    have hx' := (List.mergeSort_perm (l.eraseIdx k) leP).mem_iff.1 hx
    exact decide_eq_true (hmem x (List.mem_of_mem_eraseIdx hx'))
  · have hs := SE.sort (l.eraseIdx k) n
    rw [List.filter_cons, hs, he]
    conv => lhs; rw [hl]
    rw [List.filter_append, List.filter_append, List.filter_cons]
    by_cases hn : g.1 = n
    · have e : (l.take k).filter (fun x => decide (x.1 = n)) = [] := by
        rw [List.filter_eq_nil_iff]
        intro x hx
        obtain ⟨i, hi, rfl⟩ := List.mem_iff_getElem.1 hx
        rw [List.length_take] at hi
        have := h3 i (by omega)
        rw [get_d l i (by omega)] at this
        rw [List.getElem_take]
        simp
        omega
      rw [e]
      simp [hn]
    · simp [hn]
/-- One round. -/
theorem rloop_step {f : Nat} {l : List G} {ls : List Int} {i j : Nat} (hi : Fl l i) (hj : Fl (l.eraseIdx i) j) :
    hloop (f + 1) l ls = hloop f ((l.eraseIdx i).eraseIdx j ++ [cat (l.getD i (0, [])) ((l.eraseIdx i).getD j (0, []))]) (bump ls ((l.getD i (0, [])).2 ++ ((l.eraseIdx i).getD j (0, [])).2)) := by
  have hs := hi.sort
  rw [hj.sort] at hs
  rw [hloop_step hs]
  exact hloop_SE (SE.append (SE.sort _) (SE.refl _)) _ _
/-- .. of what is at hand in both. -/
theorem two_of {l : List G} {i j : Nat} (hi : Fl l i) (hj : Fl (l.eraseIdx i) j) : l.mergeSort leP = l.getD i (0, []) :: (l.eraseIdx i).getD j (0, []) :: ((l.eraseIdx i).eraseIdx j).mergeSort leP := by rw [hi.sort, hj.sort]
end Go.Proofs.YtkldnapbeebdkaaDoor.hfp
