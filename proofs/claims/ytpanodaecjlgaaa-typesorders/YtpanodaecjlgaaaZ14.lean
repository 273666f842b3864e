/- Texts laid together: Tm3, Tm4, LayR, Tm5. -/
import Derived.Test.YtpanodaecjlgaaaZ13
import Derived.Test.YtpanodaecjlgaaaChecked
import Derived.Shelf.Strings.Repeat
import Derived.Deep.RegionHeld3
/- A reader of a template's tokens: name. -/
namespace Go.Proofs.Ytpanodaecjlgaaa.tm
set_option linter.unusedVariables false
open Go.ChangeShapes Go.WideShapes Go.ChangeAt Go.RowKit
open mem lx ex

theorem name_is (en : Nat) (ts : List Tk) : (resv (hd en ts).t = true ∨ isN (hd en ts).t = false → name en ts = .error (3, (hd en ts).a)) ∧ (resv (hd en ts).t = false → isN (hd en ts).t = true → 12 < (hd en ts).t.length → name en ts = .error (4, (hd en ts).a)) ∧ (resv (hd en ts).t = false → isN (hd en ts).t = true → ¬ 12 < (hd en ts).t.length → name en ts = .ok ((hd en ts).t, ts.tail)) := by
  unfold name
  refine ⟨fun h => by rw [if_pos h], fun h1 h2 h3 => by rw [if_neg (by rw [h1, h2]; simp), if_pos h3], fun h1 h2 h3 => by rw [if_neg (by rw [h1, h2]; simp), if_neg h3]⟩
end Go.Proofs.Ytpanodaecjlgaaa.tm
/- Where the mark stands that ends an expression. -/
namespace Go.Proofs.Ytpanodaecjlgaaa.tm
set_option linter.unusedVariables false
open Go.ChangeShapes Go.WideShapes Go.ChangeAt Go.RowKit
open mem lx ex

theorem upto_facts (m : List UInt8) (ts : List Tk) : (upto m ts).length ≤ ts.length ∧ (∀ i (h : i < ts.length), i < (upto m ts).length → ts[i].t ≠ m) ∧ ((h : (upto m ts).length < ts.length) → ts[(upto m ts).length].t = m) := by
  induction ts with
  | nil => exact ⟨Nat.le_refl _, fun i h => absurd h (Nat.not_lt_zero _), fun h => absurd h (Nat.not_lt_zero _)⟩
  | cons t ts ih =>
    obtain ⟨h1, h2, h3⟩ := ih
    by_cases ht : t.t = m
    · have e : upto m (t :: ts) = [] := by
        unfold upto
        rw [List.takeWhile_cons_of_neg (p := fun t : Tk => t.t != m) (by simp [ht])]
      simp only [e, List.length_nil]
      exact ⟨Nat.zero_le _, fun i _ h => absurd h (Nat.not_lt_zero _), fun _ => ht⟩
    · have e : upto m (t :: ts) = t :: upto m ts := by
        unfold upto
        rw [List.takeWhile_cons_of_pos (p := fun t : Tk => t.t != m) (by simpa using ht)]
      simp only [e, List.length_cons]
      refine ⟨by omega, fun i h h' => ?_, fun h => ?_⟩
      · cases i with
        | zero => exact ht
        | succ i => exact h2 i (by simpa using h) (by omega)
      · exact h3 (by simpa using h)
/-- Where it stands, or -1. -/
def whereM (m : List UInt8) (ts : List Tk) : Int := if (upto m ts).length < ts.length then ((upto m ts).length : Int) else -1
end Go.Proofs.Ytpanodaecjlgaaa.tm
namespace Go.Proofs.Ytpanodaecjlgaaa
end Go.Proofs.Ytpanodaecjlgaaa
/- A reader of a template's tokens: an expression, up to its mark. -/
namespace Go.Proofs.Ytpanodaecjlgaaa.tm
set_option linter.unusedVariables false
open Go.ChangeShapes Go.WideShapes Go.ChangeAt Go.RowKit Go.Shelf
open mem lx ex

theorem at_below {B : Nat} {w w' : World} (h : Below B w w') {a : Addr} {v : Value} (ha : a.block < B) (hc : w.cell? a = some v) : w'.cell? a = some v := by
  unfold World.cell? at hc ⊢
  rw [h.block _ ha]
  exact hc
theorem gp_below {P : Nat} {w w' : World} (h : Gp P w w') (hP : 1 ≤ P) (hlt : P < w.heap.size) : Below 1 w w' := ⟨h.os, h.tape, h.output, h.size, fun k hk => h.block k (by omega) (by omega)⟩
/-- What a piece tells, ahead of a mark: of the text with blanks ahead of it. -/
theorem piece_is {s : ByteArray} {m : List UInt8} (hm : Em m) {pre ts : List Tk} (h : lx (L s) 0 = (pre ++ ts, none)) :
    (hd s.size ts).a ≤ (hd s.size (from_ m ts)).a ∧ (hd s.size (from_ m ts)).a ≤ s.size ∧ ∃ q, prs (L (tx (List.replicate (hd s.size ts).a 32) ++ s.extract (hd s.size ts).a (hd s.size (from_ m ts)).a)) = whole q ∧
    rx nb s.size m ts = rxq s.size (from_ m ts) q := by
  have h' : lx (L s) 0 = (pre ++ (upto m ts ++ from_ m ts), none) := by rw [upto_from]; exact h
  obtain ⟨k1, k2, k3⟩ := lx_seg h'
  simp only [upto_from, L_len] at k1 k2 k3
  obtain ⟨A, hA⟩ : ∃ A, A = (hd s.size ts).a := ⟨_, rfl⟩
  obtain ⟨B, hB⟩ : ∃ B, B = (hd s.size (from_ m ts)).a := ⟨_, rfl⟩
  rw [← hA, ← hB] at k1 k3
  rw [← hB] at k2
  rw [← hA, ← hB]
  refine ⟨k1, k2, ?_⟩
  have eL : L (tx (List.replicate A 32) ++ s.extract A B) = List.replicate A 32 ++ ((L s).drop A).take (B - A) := by
    rw [L_app, L_tx, L_ext, List.drop_take]
  rw [eL]
  have hlen : (List.replicate A (32 : UInt8) ++ ((L s).drop A).take (B - A)).length = B := by
    rw [List.length_append, List.length_replicate, List.length_take, List.length_drop, L_len]; omega
  obtain ⟨q, hq⟩ : ∃ q, row nb B (10 * (upto m ts).length + 10) 1 0 (upto m ts) = some q := by
    cases h : row nb B (10 * (upto m ts).length + 10) 1 0 (upto m ts) with
    | none => exact absurd h ((some_all _).1 1 0 _ (by omega) (by omega))
    | some q => exact ⟨q, rfl⟩
  refine ⟨q, ?_, ?_⟩
  · refine prs_of (f := 10 * (upto m ts).length + 10) k3 ?_
    rw [hlen]; exact hq
  · refine rx_upto hm (f := 10 * (upto m ts).length + 10) (by rw [← hB]; exact hq) ?_
    intro x r hx
    rw [hx] at hq
    exact (mem_all _).1 _ _ _ _ _ hq
theorem from_sx {s : ByteArray} {m : List UInt8} {ts : List Tk} (h : ∃ pre, lx (L s) 0 = (pre ++ ts, none)) : ∃ pre, lx (L s) 0 = (pre ++ from_ m ts, none) := by
  obtain ⟨pre, hp⟩ := h
  refine ⟨pre ++ upto m ts, ?_⟩
  rw [List.append_assoc, upto_from]
  exact hp
/-- A slice from a place on. -/
theorem in_drop {w : World} {p : Option Addr} {ts : List Tk} {c k : Nat} (h : tr.In w p ts) (hl : ts.length ≤ c) (hk : k ≤ ts.length) : tr.In w (if k = c then p else p.map (fun x => x.add (k * 2))) (ts.drop k) := by
  by_cases h0 : k = ts.length
  · rw [h0, List.drop_length]; exact Or.inl rfl
  · have hkc : ¬ k = c := by omega
    rw [if_neg hkc]
    rcases h with rfl | ⟨x, rfl, h2⟩
    · simp at hk; simp at h0; omega
    · refine Or.inr ⟨x.add (k * 2), rfl, fun j u hu => ?_⟩
      rw [Addr.add_add]
      refine h2 (k * 2 + j) u ?_
      have e : tr.rowE ts = tr.rowE (ts.take k) ++ tr.rowE (ts.drop k) := by rw [← tr.rowE_append, List.take_append_drop]
      rw [e, List.getElem?_append_right (by rw [tr.rowE_len, List.length_take]; omega), tr.rowE_len, List.length_take, show min k ts.length = k by omega, show k * 2 + j - k * 2 = j by omega]
      exact hu
/-- The slice behind the tokens that are gone over. -/
def cutP (p : Option Addr) (k c : Nat) : Option Addr := if k = c then p else p.map (fun x => x.add (k * 2))
theorem cutP_block {p : Option Addr} {k c P : Nat} (h : ∀ x, p = some x → x.block < P) : ∀ x, cutP p k c = some x → x.block < P := by
  intro x hx
  unfold cutP at hx
  split at hx
  · exact h x hx
  · cases p with
    | none => cases hx
    | some y =>
      injection hx with hx
      rw [← hx]
      have : (y.add (k * 2)).block = y.block := by cases (k * 2) <;> rfl
      rw [this]
      exact h y rfl
theorem from_drop (m : List UInt8) (ts : List Tk) : from_ m ts = ts.drop (upto m ts).length := by
  conv => rhs; arg 2; rw [← upto_from m ts]
  rw [List.drop_left]
end Go.Proofs.Ytpanodaecjlgaaa.tm
