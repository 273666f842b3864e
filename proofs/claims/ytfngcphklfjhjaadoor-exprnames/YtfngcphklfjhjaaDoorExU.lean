/- Expressions, written, are read: what comes of it. -/
import Derived.Test.YtfngcphklfjhjaaDoorExT
namespace Go.Proofs.YtfngcphklfjhjaaDoor.ex
set_option linter.unusedVariables false
open Go.RowKit
open mem lx

theorem ch_isT {s : List UInt8} {l : List Tk} : ∀ {p : Nat}, Ch s p l → ∀ t ∈ l, IsT t.t := by
  induction l with
  | nil => intro p h t ht; cases ht
  | cons u r ih =>
    intro p h t ht
    obtain ⟨_, _, _, h4, h5⟩ := (show p ≤ u.a ∧ u.a + u.t.length ≤ s.length ∧ (s.drop u.a).take u.t.length = u.t ∧ IsT u.t ∧ Ch s (u.a + u.t.length) r from h)
    rw [List.mem_cons] at ht
    rcases ht with rfl | ht
    · exact h4
    · exact ih h5 t ht
/-- What is known of what Parse told. -/
structure Kn (l : List UInt8) (x : Ex) : Prop where
  wf : Wf (nb := nb) Lib.itoa x
  nw : Nw x
  dp : dp x ≤ 8
  sz : sz x ≤ l.length
theorem top_one {x : Ex} (h : Okb x) : ¬ top x < 1 := by
  cases x with
  | num a n => show ¬ 4 < 1; omega
  | nam a t => show ¬ 4 < 1; omega
  | bin a o l r => have := h.1; show ¬ bd o < 1; omega
theorem sd_one {x : Ex} (h : Okb x) : sd x 1 = dp x := by unfold sd; rw [if_neg (top_one h)]
theorem sk_one {x : Ex} (h : Okb x) : sk Lib.itoa x 1 = tk Lib.itoa x := by unfold sk; rw [if_neg (top_one h)]
theorem prs_ok {l : List UInt8} {x : Ex} (h : prs l = .ok x) : (lx l 0).2 = none ∧ row nb l.length (10 * (lx l 0).1.length + 10) 1 0 (lx l 0).1 = some (.ok (x, [])) := by
  unfold prs at h
  split at h
  · cases h
  · rename_i h1
    refine ⟨h1, ?_⟩
    split at h
    · rename_i h2; injection h with h; rw [h2, h]
    · cases h
    · cases h
    · cases h
theorem prs_kn {l : List UInt8} {x : Ex} (h : prs l = .ok x) : Kn l x := by
  obtain ⟨h1, h2⟩ := prs_ok h
  have hch := lx_ch l _ 0 (Nat.le_refl _) (Nat.zero_le _)
  rw [List.drop_zero] at hch
  obtain ⟨w1, w2⟩ := (told_all (dec := Lib.itoa) told_hdec _).1 _ _ _ _ _ (by omega) (by omega) (by omega) h2
  obtain ⟨n1, n2⟩ := (nw_all _).1 _ _ _ _ _ (ch_isT hch) h2
  have hl := lx_len l _ 0 (Nat.le_refl _)
  rw [sd_one w1.okb] at w2
  exact ⟨w1, n1, by omega, by simp at n2; omega⟩
theorem prs_of {l : List UInt8} {ts : List Tk} {q : Res} {f : Nat} (h1 : lx l 0 = (ts, none)) (h2 : row nb l.length f 1 0 ts = some q) : prs l = whole q := by
  refine prs_is (ts := ts) (by rw [h1]) (by rw [h1]) ?_
  cases h : row nb l.length (10 * ts.length + 10) 1 0 ts with
  | none => exact absurd h ((some_all _).1 1 0 ts (by omega) (by omega))
  | some q' => rw [row_one h h2]
/-- WHAT IS WRITTEN IS READ. -/
theorem again {x : Ex} (hw : Wf (nb := nb) Lib.itoa x) (hn : Nw x) (hd : dp x ≤ 8) : ∃ x', Sm x x' ∧ prs (txt x) = .ok x' := by
  obtain ⟨us, u1, u2⟩ := cut_txt hn hw.okb [] 0 (fun c hc => by simp at hc)
  rw [List.append_nil] at u2
  rw [show (lx [] (0 + (txt x).length)) = ([], none) from rfl] at u2
  dsimp only at u2
  rw [List.append_nil] at u2
  obtain ⟨x', hx, hr⟩ := reads (en := (txt x).length) x hw 3 1 0 us [] (by omega) (by omega) (by rw [sd_one hw.okb]; omega) (by rw [sk_one hw.okb]; exact u1) (by show 0 ≤ 1; omega)
  obtain ⟨f, hf⟩ := hr 1 _ (lp_stop 0 1 0 x' [] (by show 0 < 1; omega))
  rw [List.append_nil] at hf
  exact ⟨x', hx, prs_of u2 hf⟩
theorem err_up {en d : Nat} {us : List Tk} {e : Int × Nat} : ∀ (k m f : Nat), m + k = 4 → one nb en f d us = some (.error e) → ∃ f, row nb en f m d us = some (.error e) := by
  intro k
  induction k with
  | zero =>
    intro m f hm h
    exact ⟨f + 1, by rw [row_top _ _ _ _ (by omega)]; exact h⟩
  | succ k ih =>
    intro m f hm h
    obtain ⟨f', hf⟩ := ih (m + 1) f (by omega) h
    exact ⟨f' + 1, by rw [row_low _ _ _ _ (by omega), hf]⟩
theorem nb_one : isN [49] = false ∧ isU [49] = true ∧ nb [49] = (1, 0) := by
  obtain ⟨h1, h2, h3, _⟩ := nb_itoa 1 (by omega) (by omega)
  have e : Lib.itoa 1 = [49] := by rw [itoa_pos 1 (by omega)]; rw [Lib.decDigits]; rfl
  rw [e] at h1 h2 h3
  exact ⟨h1, h2, h3⟩
/-- .. with brackets about it, and times 1. -/
theorem about {x : Ex} (hw : Wf (nb := nb) Lib.itoa x) (hn : Nw x) (hd : dp x ≤ 8) : (∃ x' a b, Sm x x' ∧ prs ([40] ++ txt x ++ [41, 42, 49]) = .ok (.bin a [42] x' (.num b 1))) ∨ ∃ p, prs ([40] ++ txt x ++ [41, 42, 49]) = .error (4, p) := by
  obtain ⟨us, u1, u2⟩ := cut_txt hn hw.okb [41, 42, 49] 1 (fun c hc => by simp at hc; rw [← hc]; decide)
  have t41 : ∀ a, lx [41, 42, 49] a = ([⟨[41], a⟩, ⟨[42], a + 1⟩, ⟨[49], a + 1 + 1⟩], none) := by
    intro a
    have e1 := lx_app [41] [42, 49] a (Or.inr (Or.inl ⟨41, rfl, by decide⟩)) (fun h => absurd h (by decide)) (fun h => absurd h (by decide))
    have e2 := lx_app [42] [49] (a + 1) (Or.inr (Or.inl ⟨42, rfl, by decide⟩)) (fun h => absurd h (by decide)) (fun h => absurd h (by decide))
    have e3 := lx_app [49] [] (a + 1 + 1) (Or.inl ⟨by simp, by decide⟩) (fun _ c hc => by simp at hc) (fun h => absurd h (by decide))
    have e1' : lx [41, 42, 49] a = _ := e1
    have e2' : lx [42, 49] (a + 1) = _ := e2
    have e3' : lx [49] (a + 1 + 1) = _ := e3
    rw [e1', show ([41] : List UInt8).length = 1 from rfl, e2', show ([42] : List UInt8).length = 1 from rfl, e3']
    rfl
  have e0 := lx_app [40] (txt x ++ [41, 42, 49]) 0 (Or.inr (Or.inl ⟨40, rfl, by decide⟩)) (fun h => absurd h (by decide)) (fun h => absurd h (by decide))
  rw [show 0 + ([40] : List UInt8).length = 1 from rfl, u2, t41] at e0
  obtain ⟨L0, hL0⟩ : ∃ L0, L0 = ([40] ++ txt x ++ [41, 42, 49]).length := ⟨_, rfl⟩
  have e00 : lx ([40] ++ txt x ++ [41, 42, 49]) 0 = ((⟨[40], 0⟩ : Tk) :: (us ++ [⟨[41], 1 + (txt x).length⟩, ⟨[42], 1 + (txt x).length + 1⟩, ⟨[49], 1 + (txt x).length + 1 + 1⟩]), none) := by
    rw [List.append_assoc]; exact e0
  obtain ⟨p1, hp1⟩ : ∃ p1, p1 = 1 + (txt x).length := ⟨_, rfl⟩
  rw [← hp1] at e00
  by_cases h8 : dp x + 1 ≤ 8
  · left
    obtain ⟨x', hx, hr⟩ := reads (en := L0) x hw 3 1 1 us [⟨[41], p1⟩, ⟨[42], p1 + 1⟩, ⟨[49], p1 + 1 + 1⟩] (by omega) (by omega) (by rw [sd_one hw.okb]; omega) (by rw [sk_one hw.okb]; exact u1) (by show bd [41] ≤ 1; decide)
    obtain ⟨f, hf⟩ := hr 1 _ (lp_stop 0 1 1 x' _ (by show bd [41] < 1; decide))
    have ho := in_brackets (p := 0) (show (0 : Nat) ≠ 8 by omega) hf
    obtain ⟨g1, g2, g3⟩ := nb_one
    have hlp : lp nb L0 3 3 0 x' [⟨[42], p1 + 1⟩, ⟨[49], p1 + 1 + 1⟩] = some (.ok (.bin (p1 + 1) [42] x' (.num (p1 + 1 + 1) 1), [])) := by
      rw [lp, if_pos (by show bd [42] = 3; decide), row_top _ _ _ _ (by omega), one, if_neg (by show ¬ isN [49] = true; rw [g1]; decide), if_pos (by exact g2)]
      rw [show nb (⟨[49], p1 + 1 + 1⟩ : Tk).t = (1, 0) from g3, if_pos rfl]
      dsimp only
      rw [lp]
    obtain ⟨f3, h3⟩ := climb 1 3 0 _ 3 _ _ x' _ (by omega) (by show bd [42] ≤ 3; decide) ho hlp
    refine ⟨x', p1 + 1, p1 + 1 + 1, hx, ?_⟩
    have h2 : row nb L0 (f3 + 1 + 1) 2 0 ((⟨[40], 0⟩ : Tk) :: (us ++ [⟨[41], p1⟩, ⟨[42], p1 + 1⟩, ⟨[49], p1 + 1 + 1⟩])) = some (.ok (.bin (p1 + 1) [42] x' (.num (p1 + 1 + 1) 1), [])) := by
      rw [row_low _ _ _ _ (by omega), up_row h3 (Nat.le_succ _)]
      exact lp_stop _ _ _ _ _ (by show 0 < 2; omega)
    have h1 : row nb L0 (f3 + 1 + 1 + 1) 1 0 ((⟨[40], 0⟩ : Tk) :: (us ++ [⟨[41], p1⟩, ⟨[42], p1 + 1⟩, ⟨[49], p1 + 1 + 1⟩])) = some (.ok (.bin (p1 + 1) [42] x' (.num (p1 + 1 + 1) 1), [])) := by
      rw [row_low _ _ _ _ (by omega), h2]
      exact lp_stop _ _ _ _ _ (by show 0 < 1; omega)
    rw [hL0] at h1
    rw [prs_of e00 h1]
    rfl
  · right
    obtain ⟨f, p, hf⟩ := too_deep (en := L0) x hw 3 1 1 us [⟨[41], p1⟩, ⟨[42], p1 + 1⟩, ⟨[49], p1 + 1 + 1⟩] (by omega) (by omega) (by omega) (by rw [sd_one hw.okb]; omega) (by rw [sk_one hw.okb]; exact u1)
    have ho : one nb L0 (f + 1) 0 ((⟨[40], 0⟩ : Tk) :: (us ++ [⟨[41], p1⟩, ⟨[42], p1 + 1⟩, ⟨[49], p1 + 1 + 1⟩])) = some (.error (4, p)) := by
      rw [one, if_neg (by show ¬ isN [40] = true; decide), if_neg (by show ¬ isU [40] = true; decide), if_pos rfl, if_neg (by omega), hf]
    obtain ⟨f', hf'⟩ := err_up 3 1 _ (by omega) ho
    rw [hL0] at hf'
    exact ⟨p, prs_of e00 hf'⟩
/-- Numbers of 64 bits. -/
def R64 (n : Int) : Prop := -9223372036854775808 ≤ n ∧ n < 9223372036854775808
theorem wrap_in (n : Int) (h : R64 n) : wrap64 n = n := by
  obtain ⟨h1, h2⟩ := h
  unfold wrap64
  omega
theorem wrap_r (n : Int) : R64 (wrap64 n) := by
  unfold wrap64 R64
  omega
theorem bits_r (o : BinOp) (a b : Int) : R64 (bits o .i64 a b) := by
  unfold bits
  rw [IntKind.wrap_i64]
  unfold R64
  omega
theorem jn_r (o : List UInt8) (a b : Int) : R64 (jn o a b) := by
  unfold jn
  repeat' split
  all_goals first | exact wrap_r _ | exact bits_r _ _ _ | (unfold R64; omega)
theorem ev_r {env : List UInt8 → Option Int} (he : ∀ t n, env t = some n → R64 n) {x : Ex} (hx : Nw x) {n : Int} (h : ev env x = .ok n) : R64 n := by
  cases x with
  | num a k => rw [ev] at h; injection h with h; rw [← h]; obtain ⟨h1, h2⟩ := hx; unfold R64; omega
  | nam a t =>
    rw [ev] at h
    cases hv : env t with
    | none => rw [hv] at h; cases h
    | some k => rw [hv] at h; injection h with h; rw [← h]; exact he t k hv
  | bin a o l r =>
    rw [ev] at h
    split at h
    · cases h
    · split at h
      · cases h
      · injection h with h
        rw [← h]
        exact jn_r _ _ _
/-- Times 1 it is the same. -/
theorem ev_about {env : List UInt8 → Option Int} (he : ∀ t n, env t = some n → R64 n) {x x' : Ex} (hx : Nw x) (h : Sm x x') (a b : Nat) : Eqv (ev env x) (ev env (.bin a [42] x' (.num b 1))) := by
  rw [ev, show ev env (.num b 1) = .ok 1 by rw [ev]]
  rcases h.ev (env := env) with ⟨n, h1, h2⟩ | ⟨p, q, h1, h2⟩
  · rw [h1, h2]
    refine Or.inl ⟨n, rfl, ?_⟩
    have hj : jn [42] n 1 = n := by
      show wrap64 (n * 1) = n
      rw [Int.mul_one]
      exact wrap_in n (ev_r he hx h1)
    show Except.ok (jn [42] n 1) = _
    rw [hj]
  · rw [h1, h2]
    exact Or.inr ⟨p, q, rfl, rfl⟩
theorem Nw.fit {x : Ex} (h : Nw x) : Fit x := by
  induction x with
  | num a n => obtain ⟨h1, h2⟩ := h; show _ ∧ _; omega
  | nam a t => trivial
  | bin a o l r il ir => exact ⟨il h.1, ir h.2⟩
/-- The fixed expression. -/
def fixX : Ex := .bin 0 [43] (.num 0 2) (.bin 0 [42] (.num 0 3) (.bin 0 [45] (.nam 0 [97]) (.num 0 1)))
theorem itoa_small (k : Nat) (h : k < 10) : Lib.itoa (k : Int) = [UInt8.ofNat (48 + k)] := by
  rw [itoa_pos _ (by omega), Int.toNat_natCast, Lib.decDigits, dif_pos h]
theorem fix_txt : txt fixX = [50, 32, 43, 32, 51, 32, 42, 32, 40, 97, 32, 45, 32, 49, 41] := by
  have e2 : Lib.itoa 2 = [50] := itoa_small 2 (by omega)
  have e3 : Lib.itoa 3 = [51] := itoa_small 3 (by omega)
  have e1 : Lib.itoa 1 = [49] := itoa_small 1 (by omega)
  unfold fixX
  simp only [txt, e1, e2, e3]
  rfl
theorem fix_wf : Wf (nb := nb) Lib.itoa fixX ∧ Nw fixX ∧ dp fixX ≤ 8 := by
  have w : ∀ n : Int, 0 ≤ n → n < 9223372036854775808 → isN (Lib.itoa n) = false ∧ isU (Lib.itoa n) = true ∧ nb (Lib.itoa n) = (n, 0) := fun n h1 h2 => by
    obtain ⟨a, b, c, _⟩ := nb_itoa n h1 h2
    exact ⟨a, b, c⟩
  refine ⟨⟨by decide, w 2 (by omega) (by omega), by decide, w 3 (by omega) (by omega), by decide, ⟨by decide, by decide⟩, w 1 (by omega) (by omega)⟩, ⟨⟨by omega, by omega⟩, ⟨by omega, by omega⟩, ⟨by decide, by decide, by decide⟩, by omega, by omega⟩, by decide⟩
theorem fix_ev (env : List UInt8 → Option Int) (h : env [97] = some 5) : ev env fixX = .ok 14 := by
  unfold fixX
  simp only [ev, h]
  simp [jn, wrap64]
end Go.Proofs.YtfngcphklfjhjaaDoor.ex
