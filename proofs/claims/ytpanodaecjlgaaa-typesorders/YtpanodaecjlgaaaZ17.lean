/- Texts laid together: TmF, TmT, TmG, TmH. -/
import Derived.Test.YtpanodaecjlgaaaZ16
import Derived.RegionCalls
/- A reader of a template's tokens: types. -/
namespace Go.Proofs.Ytpanodaecjlgaaa.tm
set_option linter.unusedVariables false
open Go.ChangeShapes Go.WideShapes Go.ChangeAt Go.RowKit Go.Shelf
open mem lx ex

def preT (l : List Ty) : Except (Int × Nat) (List Ty) → Except (Int × Nat) (List Ty)
  | .error e => .error e
  | .ok m => .ok (l ++ m)
theorem typs_is (en n : Nat) (l : List Ty) (t : Tk) (r : List Tk) :
    (¬ t.t = wStruct → preT l (typs nb en n (t :: r)) = .error (3, t.a)) ∧ (t.t = wStruct → n = 0 → preT l (typs nb en n (t :: r)) = .error (4, t.a)) ∧
    (t.t = wStruct → ∀ m, n = m + 1 → (∀ e, name en r = .error e → preT l (typs nb en n (t :: r)) = .error e) ∧ ∀ x r1, name en r = .ok (x, r1) →
      (∀ e, blk nb en 8 r1 = .error e → preT l (typs nb en n (t :: r)) = .error e) ∧ ∀ it r2, blk nb en 8 r1 = .ok (it, r2) →
        preT l (typs nb en n (t :: r)) = preT (l ++ [⟨x, (hd en r).a, it⟩]) (typs nb en m r2)) := by
  cases n with
  | zero =>
    rw [typs]
    exact ⟨fun h => by rw [if_neg h]; rfl, fun h _ => by rw [if_pos h]; rfl, fun h m hm => by omega⟩
  | succ n =>
    rw [typs]
    refine ⟨fun h => by rw [if_neg h]; rfl, fun h h0 => by omega, fun h m hm => ?_⟩
    obtain rfl : n = m := by omega
    rw [if_pos h]
    refine ⟨fun e he => by rw [he]; rfl, fun x r1 hx => ?_⟩
    rw [hx]
    dsimp only
    refine ⟨fun e he => by rw [he]; rfl, fun it r2 hb => ?_⟩
    rw [hb]
    dsimp only
    cases typs nb en n r2 with
    | error e => rfl
    | ok q => show Except.ok (l ++ (⟨x, (hd en r).a, it⟩ :: q)) = Except.ok ((l ++ [⟨x, (hd en r).a, it⟩]) ++ q); simp
theorem typs_end (en n : Nat) (l : List Ty) : preT l (typs nb en n []) = .ok l := by
  cases n <;> (show Except.ok (l ++ []) = _; rw [List.append_nil])
end Go.Proofs.Ytpanodaecjlgaaa.tm
/- The words that are no names: taken of package tmpl. -/
namespace Go.Proofs.Ytpanodaecjlgaaa.tm
set_option linter.unusedVariables false
open Go.ChangeShapes Go.WideShapes Go.ChangeAt Go.RowKit Go.Shelf
open mem lx ex

/-- The words, with so many of those for numbers. -/
def mp : Nat → List UInt8 → Option Int
  | 0 => fun y => if y = wCheck then some (-1) else if y = wCount then some (-1) else if y = wSize then some (-1) else if y = wWhen then some (-1) else if y = wBytes then some (-1) else if y = wStruct then some (-1) else none
  | i + 1 => fun y => if y = (numW[i]?.map (·.1)).getD [] then some (i : Int) else mp i y
theorem mp_all : mp 12 = fun t => if resv t = true then some (wdV t) else none := by
  funext y
  by_cases h : y ∈ [wStruct, wBytes, wWhen, wSize, wCount, wCheck] ∨ y ∈ numW.map (·.1)
  · have key : ∀ y, y ∈ [wStruct, wBytes, wWhen, wSize, wCount, wCheck] ∨ y ∈ numW.map (·.1) → mp 12 y = if resv y = true then some (wdV y) else none := by
      intro y hy
      rcases hy with hy | hy
      · have k : ∀ y ∈ [wStruct, wBytes, wWhen, wSize, wCount, wCheck], mp 12 y = if resv y = true then some (wdV y) else none := by decide
        exact k y hy
      · have k : ∀ y ∈ numW.map (·.1), mp 12 y = if resv y = true then some (wdV y) else none := by decide
        exact k y hy
    exact key y h
  · have h1 : ∀ w ∈ [wStruct, wBytes, wWhen, wSize, wCount, wCheck], ¬ y = w := fun w hw e => h (Or.inl (by rw [e]; exact hw))
    have h2 : ∀ w ∈ numW.map (·.1), ¬ y = w := fun w hw e => h (Or.inr (by rw [e]; exact hw))
    have hr : resv y = false := by
      unfold resv
      rw [Bool.or_eq_false_iff]
      refine ⟨?_, ?_⟩
      · rw [Bool.eq_false_iff]
        intro hc
        rw [List.contains_iff_mem] at hc
        exact h1 y hc rfl
      · unfold numOf
        have : numW.find? (fun p => p.1 == y) = none := by
          rw [List.find?_eq_none]
          intro p hp
          have := h2 p.1 (List.mem_map_of_mem hp)
          simp
          exact fun e => this e.symm
        rw [this]; rfl
    rw [hr]
    have m0 : mp 0 y = none := by
      unfold mp
      rw [if_neg (h1 _ (by simp)), if_neg (h1 _ (by simp)), if_neg (h1 _ (by simp)), if_neg (h1 _ (by simp)), if_neg (h1 _ (by simp)), if_neg (h1 _ (by simp))]
    have step : ∀ i, i ≤ 12 → mp i y = none := by
      intro i
      induction i with
      | zero => intro _; exact m0
      | succ i ih =>
        intro hi
        show (if y = (numW[i]?.map (·.1)).getD [] then some (i : Int) else mp i y) = none
        rw [if_neg, ih (by omega)]
        have hlt : i < numW.length := by have : numW.length = 12 := rfl; omega
        rw [List.getElem?_eq_getElem hlt]
        exact h2 _ (List.mem_map_of_mem (List.getElem_mem hlt))
    rw [step 12 (by omega)]
    rfl
def numV (p : List UInt8 × Nat × Nat × Bool) : Value := .agg #[.string (tx p.1), .int .i64 (p.2.1 : Int), .int .i64 (p.2.2.1 : Int), .bool p.2.2.2]
/-- What taken answers. -/
def TkA (w : World) (e : Ending) (w' : World) : Prop := ∃ b, e = .returned (.map (some b)) ∧ w.heap.size ≤ b ∧ b < w'.heap.size ∧ Wds w' b ∧ Bl w w'
theorem om_lt {w : World} {b c : Nat} {f : List UInt8 → Option Int} (h : Om w b f c) : b < w.heap.size := by
  obtain ⟨D, h1, _⟩ := h
  exact h1.lt
end Go.Proofs.Ytpanodaecjlgaaa.tm
/- Parse of package tmpl. -/
namespace Go.Proofs.Ytpanodaecjlgaaa.tm
set_option linter.unusedVariables false
open Go.ChangeShapes Go.WideShapes Go.ChangeAt Go.RowKit Go.Shelf
open mem lx ex

end Go.Proofs.Ytpanodaecjlgaaa.tm
/- Parse of package tmpl, whole. -/
namespace Go.Proofs.Ytpanodaecjlgaaa.tm
set_option linter.unusedVariables false
open Go.ChangeShapes Go.WideShapes Go.ChangeAt Go.RowKit Go.Shelf
open mem lx ex

theorem IsTs.keep {w w' : World} {ok : Nat → Prop} {v : Value} {l : List Ty} (h : IsTs w ok v l) (hk : ∀ g, ok g → g < w.heap.size → w'.heap[g]? = w.heap[g]?) (hs : w.heap.size ≤ w'.heap.size) (hx : Kx w w') : IsTs w' ok v l := by
  obtain ⟨p, c, cs, h1, h2, h3⟩ := h
  exact ⟨p, c, cs, h1, h2.keep hk hs, h3.keep hk hs hx⟩
theorem IsTs.setv {w : World} {b base : Nat} {v x y : Value} {t : TypeId} {l : List Ty} (h : IsTs w (fun g => base ≤ g) v l) (hv : Vr w b y t) (ht : t ≠ 74) (hb : b < base) : IsTs (w.setCell ⟨b, 0, none⟩ x) (fun g => base ≤ g) v l :=
  h.keep (fun g hg hlt => (grown_set w b 0 x).block g hlt (fun e => by injection e with e; omega)) (by simp [World.setCell]) (Kx.set hv ht)
/-- What a text's structs are, or what is told, and where. -/
noncomputable def prT (l : List UInt8) : Except (Int × Nat) (List Ty) :=
  match (lx l 0).2 with
  | some p => .error (3, p)
  | none => typs nb l.length 8 (lx l 0).1
end Go.Proofs.Ytpanodaecjlgaaa.tm
