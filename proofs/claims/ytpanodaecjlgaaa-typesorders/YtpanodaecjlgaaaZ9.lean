/- Texts laid together: Ex4, Ex5, Ex7, Ex8. -/
import Derived.Test.YtpanodaecjlgaaaZ8
import Derived.Deep.RegionHeld3
import Derived.Test.YtpanodaecjlgaaaZ3
/- Rows of things that are joined: row of package expr. -/
namespace Go.Proofs.Ytpanodaecjlgaaa.ex
set_option linter.unusedVariables false
open Go.ChangeShapes Go.WideShapes Go.ChangeAt Go.RowKit
open mem lx

/-- How many tokens are left. -/
def lenAt (w : World) (P : Nat) : Nat := match w.cell? ⟨P, 0, none⟩ with | some (.slice _ n _) => n | _ => 0
theorem lp_is {f m d en : Nat} {x : Ex} {ts : List Tk} {q : Res} (hm : 1 ≤ m) (h : lp nb en (f + 1) m d x ts = some q) :
    (¬ bd (hd en ts).t = m → q = .ok (x, ts)) ∧ (bd (hd en ts).t = m → ts = hd en ts :: ts.tail ∧ ∃ q1, row nb en f (m + 1) d ts.tail = some q1 ∧ (∀ e, q1 = .error e → q = .error e) ∧ (∀ y r, q1 = .ok (y, r) → lp nb en f m d (.bin (hd en ts).a (hd en ts).t x y) r = some q)) := by
  cases ts with
  | nil =>
    rw [lp] at h
    injection h with h
    refine ⟨fun _ => h.symm, fun hb => ?_⟩
    have : bd ([] : List UInt8) = m := hb
    have h0 : bd ([] : List UInt8) = 0 := by decide
    omega
  | cons t r =>
    rw [show hd en (t :: r) = t from rfl, show (t :: r).tail = r from rfl]
    rw [lp] at h
    refine ⟨fun hb => ?_, fun hb => ⟨rfl, ?_⟩⟩
    · rw [if_neg hb] at h
      injection h with h
      exact h.symm
    · rw [if_pos hb] at h
      split at h
      · cases h
      · rename_i e hr
        injection h with h
        exact ⟨_, hr, fun e' he => by injection he with he; rw [← he]; exact h.symm, fun y r hy => by cases hy⟩
      · rename_i y r' hr
        refine ⟨_, hr, ?_, ?_⟩
        · intro e he; cases he
        · intro y2 r2 hy
          injection hy with hy
          injection hy with hy1 hy2
          rw [← hy1, ← hy2]; exact h
/-- What is left was there. -/
theorem mem_all {en : Nat} (f : Nat) : (∀ m d ts x r, row nb en f m d ts = some (.ok (x, r)) → ∀ t ∈ r, t ∈ ts) ∧ (∀ m d y ts x r, lp nb en f m d y ts = some (.ok (x, r)) → ∀ t ∈ r, t ∈ ts) ∧ (∀ d ts x r, one nb en f d ts = some (.ok (x, r)) → ∀ t ∈ r, t ∈ ts) := by
  induction f with
  | zero => exact ⟨fun _ _ _ _ _ h => by simp [row] at h, fun _ _ _ _ _ _ h => by simp [lp] at h, fun _ _ _ _ h => by simp [one] at h⟩
  | succ f ih =>
    obtain ⟨i1, i2, i3⟩ := ih
    refine ⟨?_, ?_, ?_⟩
    · intro m d ts x r h
      by_cases hm : 3 < m
      · rw [row_top _ _ _ _ hm] at h
        exact i3 _ _ _ _ h
      · rw [row_low _ _ _ _ hm] at h
        split at h
        · cases h
        · cases h
        · rename_i y r' hr
          exact fun t ht => i1 _ _ _ _ _ hr t (i2 _ _ _ _ _ _ h t ht)
    · intro m d y ts x r h
      cases ts with
      | nil =>
        simp only [lp, Option.some.injEq, Except.ok.injEq, Prod.mk.injEq] at h
        rw [← h.2]
        exact fun t ht => ht
      | cons t ts =>
        rw [lp] at h
        split at h
        · split at h
          · cases h
          · cases h
          · rename_i z r' hr
            exact fun u hu => List.mem_cons_of_mem _ (i1 _ _ _ _ _ hr u (i2 _ _ _ _ _ _ h u hu))
        · simp only [Option.some.injEq, Except.ok.injEq, Prod.mk.injEq] at h
          rw [← h.2]
          exact fun t ht => ht
    · intro d ts x r h
      cases ts with
      | nil => simp [one] at h
      | cons t ts =>
        rw [one] at h
        split at h
        · split at h
          · simp at h
          · simp at h; rw [← h.2]; exact fun u hu => List.mem_cons_of_mem _ hu
        · split at h
          · split at h
            · simp at h; rw [← h.2]; exact fun u hu => List.mem_cons_of_mem _ hu
            · simp at h
          · split at h
            · split at h
              · simp at h
              · split at h
                · cases h
                · cases h
                · rename_i z r' hr
                  split at h
                  · simp at h; rw [← h.2]
                    exact fun u hu => List.mem_cons_of_mem _ (i1 _ _ _ _ _ hr u (List.mem_of_mem_tail hu))
                  · simp at h
            · simp at h
theorem run_text (S : ByteArray) (n : Int) (w : World) : (Instr.field 67 (.agg #[.string S, .int .i64 n]) 0).run Try.prog w = .ok (.string S) w := by kernel_rfl
theorem kept_tok {P N : Nat} {W w6 : World} {S : ByteArray} {a : Int} (h : W.heap[N]? = some (.cells #[.string S, .int .i64 a] 67 (0, 0))) (hne : N ≠ P) (hg : Gp P W.drew w6) : w6.cell? ⟨N, 0, none⟩ = some (.string S) ∧ w6.cell? ⟨N, 1, none⟩ = some (.int .i64 a) := by
  have h6 : w6.heap[N]? = some (.cells #[.string S, .int .i64 a] 67 (0, 0)) := (hg.block N (lt_of_heap h) hne).trans h
  exact ⟨by rw [cell_of h6]; rfl, by rw [cell_of h6]; rfl⟩
end Go.Proofs.Ytpanodaecjlgaaa.ex
/- Parse of package expr. -/
namespace Go.Proofs.Ytpanodaecjlgaaa.ex
set_option linter.unusedVariables false
open Go.ChangeShapes Go.WideShapes Go.ChangeAt Go.RowKit
open mem lx

/-- A text's expression, or what is told, and where. -/
noncomputable def prs (l : List UInt8) : Except (Int × Nat) Ex :=
  match (lx l 0).2 with
  | some p => .error (3, p)
  | none => match row nb l.length (10 * (lx l 0).1.length + 10) 1 0 (lx l 0).1 with
    | some (.ok (x, [])) => .ok x
    | some (.ok (x, t :: _)) => .error (3, t.a)
    | some (.error e) => .error e
    | none => .error (0, 0)
/-- What reading all comes to. -/
def whole (q : Res) : Except (Int × Nat) Ex :=
  match q with
  | .ok (x, []) => .ok x
  | .ok (x, t :: _) => .error (3, t.a)
  | .error e => .error e
theorem prs_is {l : List UInt8} {ts : List Tk} {q : Res} (h1 : (lx l 0).2 = none) (h2 : ts = (lx l 0).1) (h3 : row nb l.length (10 * ts.length + 10) 1 0 ts = some q) : prs l = whole q := by
  unfold prs
  rw [h1]
  dsimp only
  rw [← h2, h3]
  cases q with
  | error e => rfl
  | ok xr =>
    obtain ⟨x, r⟩ := xr
    cases r <;> rfl
theorem Vr.gp {P b : Nat} {w w' : World} {v : Value} {t : TypeId} (h : Vr w b v t) (hg : Gp P w w') (hne : b ≠ P) : Vr w' b v t := by
  have := h.lt
  unfold Vr at h ⊢
  rw [hg.block b this hne]
  exact h
/-- Parts of expressions, and errors, stay when a variable is set. -/
theorem Kx.set {w : World} {b : Nat} {v x : Value} {t : TypeId} (h : Vr w b v t) (ht : t ≠ 74) : Kx w (w.setCell ⟨b, 0, none⟩ x) := fun k cs hk => by
  rw [(grown_set w b 0 x).block k (lt_of_heap hk) (fun e => by
    injection e with e
    rw [e] at hk
    unfold Vr at h
    rw [h] at hk
    simp at hk
    exact ht hk.2)]
  exact hk
theorem tok_len {s : List UInt8} {l : List Tk} : ∀ {p : Nat}, Ch s p l → ∀ t ∈ l, t.t.length ≤ s.length := by
  induction l with
  | nil => intro p h t ht; cases ht
  | cons u r ih =>
    intro p h t ht
    obtain ⟨h1, h2, _, _, h5⟩ := (show p ≤ u.a ∧ u.a + u.t.length ≤ s.length ∧ _ ∧ _ ∧ Ch s (u.a + u.t.length) r from h)
    rw [List.mem_cons] at ht
    rcases ht with rfl | ht
    · omega
    · exact ih h5 t ht
end Go.Proofs.Ytpanodaecjlgaaa.ex
/- What expressions come to: joined, value and Eval of package expr. -/
namespace Go.Proofs.Ytpanodaecjlgaaa.ex
set_option linter.unusedVariables false
open Go.ChangeShapes Go.WideShapes Go.ChangeAt Go.RowKit
open mem lx

/-- What an op makes of two numbers. -/
def jn (o : List UInt8) (a b : Int) : Int :=
  if o = [61, 61] then (if a = b then 1 else 0) else if o = [33, 61] then (if a = b then 0 else 1) else if o = [60] then (if a < b then 1 else 0) else if o = [62] then (if b < a then 1 else 0) else if o = [43] then (wrap64 (a + b)) else if o = [45] then (wrap64 (a - b)) else if o = [124] then (bits .or .i64 a b) else if o = [42] then (wrap64 (a * b)) else if o = [38] then (bits .and .i64 a b) else 0
/-- What an expression comes to, or where a name is missing. -/
def ev (env : List UInt8 → Option Int) : Ex → Except Nat Int
  | .num _ n => .ok n
  | .nam a t => match env t with | some n => .ok n | none => .error a
  | .bin _ o l r => match ev env l with
    | .error p => .error p
    | .ok a => match ev env r with
      | .error p => .error p
      | .ok b => .ok (jn o a b)
/-- Ops that there are. -/
def Okb : Ex → Prop
  | .num _ _ => True
  | .nam _ t => t.length ≤ 3000
  | .bin _ o l r => 0 < bd o ∧ Okb l ∧ Okb r
end Go.Proofs.Ytpanodaecjlgaaa.ex
/- Eval of package expr. -/
namespace Go.Proofs.Ytpanodaecjlgaaa.ex
set_option linter.unusedVariables false
open Go.ChangeShapes Go.WideShapes Go.ChangeAt Go.RowKit
open mem lx

end Go.Proofs.Ytpanodaecjlgaaa.ex
