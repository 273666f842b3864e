/- Texts laid together: TmN, TmO, TmU, LbA, LbB. -/
import Derived.Test.YtococaecjecjgaaGreatDoorXLayoutReads25
import Derived.Test.YtococaecjecjgaaGreatDoorXLayoutReads22
namespace Go.Proofs.YtococaecjecjgaaGreatDoor.tm
set_option linter.unusedVariables false
open lx ex

theorem txO_len {o : Option Ex} (h : ∀ x, o = some x → WX x) : (txO o).length ≤ 40 * szO o := by
  cases o with
  | none => exact Nat.zero_le _
  | some x =>
    have w := h x rfl
    have := txt_len w.2.1 w.1.okb
    show (txt x).length ≤ 40 * sz x
    omega
theorem wd_wx {d : D} (h : WD d) : ∀ x, d.ct = some x → WX x := by
  intro y hy
  rcases h with h | h | h | h
  · obtain ⟨x, hx, wx⟩ := h.2.1
    rw [hx] at hy; injection hy with hy; rw [← hy]; exact wx
  · obtain ⟨x, hx, wx⟩ := h.2.2.1
    rw [hx] at hy; injection hy with hy; rw [← hy]; exact wx
  · rcases h.2.2.2.2.2.2.2.2.2 with ⟨_, x, hx, wx⟩ | ⟨_, hx⟩
    · rw [hx] at hy; injection hy with hy; rw [← hy]; exact wx
    · rw [hx] at hy; cases hy
  · rcases h.2.2.2.2 with ⟨_, ⟨x, hx, wx⟩, _⟩ | ⟨_, hx, _⟩
    · rw [hx] at hy; injection hy with hy; rw [← hy]; exact wx
    · rw [hx] at hy; cases hy
theorem rw_len (r : Nat) : (rw_ r).length ≤ 5 := by
  unfold rw_
  split
  · decide
  · split <;> decide
theorem paT_len {d : D} (h : WD d) (h4 : d.kd ≠ 4) : (paT d).length ≤ 70 + 40 * szO d.ct := by
  have h1 := kw_len h h4
  have h2 := (wd_nm h h4).2.2.1
  have h3 := txO_len (wd_wx h)
  have h5 : (mnT d).length ≤ 2 + (txO d.ct).length := by
    unfold mnT
    split
    · simp only [List.length_append, List.length_cons, List.length_nil]; omega
    · exact Nat.zero_le _
  have h6 : (ruT d).length ≤ 40 := by
    unfold ruT
    by_cases hr : d.ru = 0 ∨ 4 ≤ d.ru
    · rw [if_pos hr]; exact Nat.zero_le _
    · rw [if_neg hr]
      obtain ⟨wr, _⟩ := ru_wr h (fun e => hr (Or.inl e))
      have f1 : d.f1.length ≤ 12 ∧ d.l1.length ≤ 12 := by
        rcases wr with w | w | w
        · exact absurd (Or.inl w.1) hr
        · exact ⟨w.2.1.2.2.1, by rw [w.2.2]; exact Nat.zero_le _⟩
        · exact ⟨w.2.1.2.2.1, w.2.2.2.2.1⟩
      have r5 := rw_len d.ru
      split <;> simp only [List.length_append, List.length_cons, List.length_nil] <;> omega
  unfold paT
  simp only [List.length_append, List.length_cons, List.length_nil]
  omega
theorem itx_len (l : Its) : ∀ (k : Nat) (pad : List UInt8), WI k l → pad.length + 2 * k ≤ 16 → (itx pad l).length ≤ 100 * zI l := by
  induction l with
  | nil => intro k pad _ _; exact Nat.zero_le _
  | cons d s t is it =>
    intro k pad hw hp
    obtain ⟨w1, w2, w3, w4⟩ := hw
    have ht := it k pad w4 hp
    rw [itx, zI]
    by_cases h4 : d.kd = 4
    · obtain ⟨g1, g2, g3⟩ := w3 h4
      have hs := is (k - 1) (pad ++ [32, 32]) g3 (by simp; omega)
      have h3 := txO_len (wd_wx w1)
      rw [if_pos h4]
      simp only [List.length_append, List.length_cons, List.length_nil]
      rw [show wWhen.length = 4 from rfl]
      omega
    · rw [if_neg h4]
      have h3 := paT_len w1 h4
      simp only [List.length_append, List.length_cons, List.length_nil]
      omega
theorem ptxt_len (l : List Ty) (h : ∀ t ∈ l, NM t.nm ∧ t.l.len ≤ 16 ∧ WI 7 t.l) : (ptxt l).length ≤ 100 * zT l := by
  induction l with
  | nil => exact Nat.zero_le _
  | cons t l ih =>
    have k1 := ih (fun u hu => h u (by simp [hu]))
    obtain ⟨n1, n2, n3⟩ := h t (by simp)
    have k2 := itx_len t.l 7 [] n3 (by decide)
    have k3 := n1.2.2.1
    unfold ptxt at k1 ⊢
    unfold zT at k1 ⊢
    rw [List.flatMap_cons, List.length_append, List.map_cons, List.sum_cons]
    have k4 : (tyx t).length = 6 + 1 + t.nm.length + 3 + (itx [] t.l).length + 2 := by
      unfold tyx
      simp only [List.length_append, List.length_cons, List.length_nil]
      rw [show wStruct.length = 6 from rfl]
    omega
theorem zT_mem {l : List Ty} {t : Ty} (h : t ∈ l) : zI t.l ≤ zT l := by
  induction l with
  | nil => cases h
  | cons u l ih =>
    unfold zT at ih ⊢
    rw [List.map_cons, List.sum_cons]
    rw [List.mem_cons] at h
    rcases h with rfl | h
    · omega
    · have := ih h; omega
theorem ch_at {s : List UInt8} {l : List Tk} : ∀ {p : Nat}, Ch s p l → ∀ t ∈ l, t.a ≤ s.length := by
  induction l with
  | nil => intro p h t ht; cases ht
  | cons u r ih =>
    intro p h t ht
    obtain ⟨h1, h2, _, _, h5⟩ := (show p ≤ u.a ∧ u.a + u.t.length ≤ s.length ∧ _ ∧ _ ∧ Ch s (u.a + u.t.length) r from h)
    rw [List.mem_cons] at ht
    rcases ht with rfl | ht
    · omega
    · exact ih h5 t ht
theorem ch_is {s : List UInt8} {l : List Tk} : ∀ {p : Nat}, Ch s p l → ∀ t ∈ l, IsT t.t := by
  induction l with
  | nil => intro p h t ht; cases ht
  | cons u r ih =>
    intro p h t ht
    obtain ⟨_, _, _, h4, h5⟩ := (show p ≤ u.a ∧ u.a + u.t.length ≤ s.length ∧ (s.drop u.a).take u.t.length = u.t ∧ IsT u.t ∧ Ch s (u.a + u.t.length) r from h)
    rw [List.mem_cons] at ht
    rcases ht with rfl | ht
    · exact h4
    · exact ih h5 t ht
theorem prT_told {s : List UInt8} {l : List Ty} (h : prT s = .ok l) (hs : s.length ≤ 3000) : CI l ∧ WT l ∧ (ptxt l).length ≤ 300000 ∧ l.length ≤ 8 := by
  unfold prT at h
  split at h
  · cases h
  · rename_i h0
    have hch := lx_ch s _ 0 (Nat.le_refl _) (Nat.zero_le _)
    rw [List.drop_zero] at hch
    have hln := lx_len s _ 0 (Nat.le_refl _)
    have hT : TS (lx s 0).1 := ch_is hch
    have hP : TP s.length (lx s 0).1 := ⟨by omega, fun t ht => by have := ch_at hch t ht; omega⟩
    obtain ⟨g1, g2⟩ := typs_told 8 _ _ hT h
    obtain ⟨k1, k2⟩ := typs_len 8 _ _ hT hP h
    have hw : WT l := ⟨g1, g2⟩
    have hp := ptxt_len l g2
    refine ⟨⟨hw, fun t ht => ⟨(k2 t ht).1, (k2 t ht).2, ?_⟩⟩, hw, by omega, g1⟩
    have h1 := tot_le t.l
    have h2 := zT_mem ht
    omega
end Go.Proofs.YtococaecjecjgaaGreatDoor.tm


namespace Go.Proofs.YtococaecjecjgaaGreatDoor.ly
set_option linter.unusedVariables false
open Go.ChangeShapes Go.WideShapes Go.ChangeAt Go.RowKit Go.Shelf
open mem lx ex tm num

theorem WT.okt {l : List Ty} (h : WT l) : OKT l := fun t ht => ⟨7, (h.2 t ht).2.2, (h.2 t ht).2.1⟩
theorem WT.nms {l : List Ty} (h : WT l) : ∀ t ∈ l, t.nm.length ≤ maxLen := fun t ht => by
  have := (h.2 t ht).1.2.2.1
  unfold maxLen
  omega
end Go.Proofs.YtococaecjecjgaaGreatDoor.ly
namespace Go.Proofs.YtococaecjecjgaaGreatDoor.ly
set_option linter.unusedVariables false
open lx ex tm num

def RecZ (rec : Its → Env → St → Except Er (Nds × St)) : Prop := ∀ i e st ks st', st.2 ≤ 400 → rec i e st = .ok (ks, st') → ks.sz + st.2 ≤ st'.2 ∧ st'.2 ≤ 400
section
variable {s : List UInt8} {l : List Ty} {rec : Its → Env → St → Except Er (Nds × St)}
theorem body_z (hr : RecZ rec) {d : D} {sub : Its} {e : Env} {a k : Nat} {nd : ND} {ks : Nds} {st' : St} (hk : k ≤ 400) (h : body s l rec d sub e a k = .ok (nd, ks, st')) : ks.sz + k ≤ st'.2 ∧ st'.2 ≤ 400 := by
  unfold body at h
  split at h
  · split at h
    · injection h with h
      simp only [Prod.mk.injEq] at h
      obtain ⟨rfl, rfl, rfl⟩ := h
      exact ⟨by simp [Nds.sz], hk⟩
    · cases h
  · split at h
    · split at h
      · cases h
      · split at h
        · cases h
        · injection h with h
          simp only [Prod.mk.injEq] at h
          obtain ⟨rfl, rfl, rfl⟩ := h
          exact ⟨by simp [Nds.sz], hk⟩
    · split at h
      · split at h
        · cases h
        · split at h
          · cases h
          · rename_i h1
            injection h with h
            simp only [Prod.mk.injEq] at h
            obtain ⟨rfl, rfl, rfl⟩ := h
            exact hr _ _ _ _ _ hk h1
      · split at h
        · cases h
        · split at h
          · injection h with h
            simp only [Prod.mk.injEq] at h
            obtain ⟨rfl, rfl, rfl⟩ := h
            exact ⟨by simp [Nds.sz], hk⟩
          · split at h
            · cases h
            · rename_i h1
              injection h with h
              simp only [Prod.mk.injEq] at h
              obtain ⟨rfl, rfl, rfl⟩ := h
              exact hr _ _ _ _ _ hk h1
theorem one_z (hr : RecZ rec) {d : D} {sub : Its} {e : Env} {st : St} {nd : ND} {ks : Nds} {st' : St} (hk : st.2 ≤ 400) (h : one s l rec d sub e st = .ok (nd, ks, st')) : ks.sz + 1 + st.2 ≤ st'.2 ∧ st'.2 ≤ 400 := by
  unfold one at h
  split at h
  · cases h
  · have := body_z hr (by omega) h
    omega
theorem reps_z (hr : RecZ rec) {d : D} {sub : Its} {e : Env} (n : Nat) : ∀ {st : St} {ks : Nds} {st' : St}, st.2 ≤ 400 → reps s l rec d sub e n st = .ok (ks, st') → ks.sz + st.2 ≤ st'.2 ∧ st'.2 ≤ 400 := by
  induction n with
  | zero =>
    intro st ks st' hk h
    rw [reps] at h
    injection h with h
    simp only [Prod.mk.injEq] at h
    obtain ⟨rfl, rfl⟩ := h
    exact ⟨by simp [Nds.sz], hk⟩
  | succ n ih =>
    intro st ks st' hk h
    rw [reps] at h
    split at h
    · cases h
    · rename_i nd k1 st1 h1
      split at h
      · cases h
      · rename_i r st2 h2
        injection h with h
        simp only [Prod.mk.injEq] at h
        obtain ⟨rfl, rfl⟩ := h
        have g1 := one_z hr hk h1
        have g2 := ih g1.2 h2
        unfold Nds.sz
        omega
theorem part_z (hr : RecZ rec) {d : D} {sub : Its} {e : Env} {st : St} {nd : ND} {ks : Nds} {st' : St} (hk : st.2 ≤ 400) (h : part s l rec d sub e st = .ok (nd, ks, st')) : ks.sz + 1 + st.2 ≤ st'.2 ∧ st'.2 ≤ 400 := by
  unfold part at h
  split at h
  · split at h
    · cases h
    · split at h
      · cases h
      · split at h
        · cases h
        · rename_i k1 st1 h1
          injection h with h
          simp only [Prod.mk.injEq] at h
          obtain ⟨rfl, rfl, rfl⟩ := h
          have := reps_z hr _ (show (st.1, st.2 + 1).2 ≤ 400 by show st.2 + 1 ≤ 400; omega) h1
          dsimp only at this
          omega
  · exact one_z hr hk h
theorem blk_z (hr : RecZ rec) (i : Its) : ∀ {e : Env} {st : St} {ks : Nds} {st' : St}, st.2 ≤ 400 → blk s l rec i e st = .ok (ks, st') → ks.sz + st.2 ≤ st'.2 ∧ st'.2 ≤ 400 := by
  induction i with
  | nil =>
    intro e st ks st' hk h
    rw [blk] at h
    injection h with h
    simp only [Prod.mk.injEq] at h
    obtain ⟨rfl, rfl⟩ := h
    exact ⟨by simp [Nds.sz], hk⟩
  | cons d sub t _ ih =>
    intro e st ks st' hk h
    rw [blk] at h
    split at h
    · cases h
    · rename_i nd k1 st1 h1
      split at h
      · cases h
      · rename_i r st2 h2
        injection h with h
        simp only [Prod.mk.injEq] at h
        obtain ⟨rfl, rfl⟩ := h
        have g1 := part_z hr hk h1
        have g2 := ih g1.2 h2
        unfold Nds.sz
        omega
end
theorem rdB_z (s : List UInt8) (l : List Ty) : ∀ f, RecZ (rdB s l f)
  | 0 => by intro i e st ks st' _ h; rw [rdB] at h; cases h
  | f + 1 => by intro i e st ks st' hk h; rw [rdB] at h; exact blk_z (rdB_z s l f) i hk h
theorem rd_z {s : List UInt8} {l : List Ty} {x : List UInt8} {nd : ND} {ks : Nds} (h : rd s l x = .ok (nd, ks)) : ks.sz ≤ 400 := by
  unfold rd at h
  split at h
  · cases h
  · rename_i nd1 k1 st1 h1
    split at h
    · cases h
    · injection h with h
      simp only [Prod.mk.injEq] at h
      obtain ⟨rfl, rfl⟩ := h
      have := one_z (rdB_z s l 400) (show ((0, 0) : St).2 ≤ 400 by decide) h1
      dsimp only at this
      omega
end Go.Proofs.YtococaecjecjgaaGreatDoor.ly
