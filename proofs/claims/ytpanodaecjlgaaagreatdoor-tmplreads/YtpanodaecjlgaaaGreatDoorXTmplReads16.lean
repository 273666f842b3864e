/- Texts laid together: Ty1, Ty2, Ty3, Ty4, Ri. -/
import Derived.Test.YtpanodaecjlgaaaGreatDoorXTmplReads15
import Derived.Test.YtpanodaecjlgaaaGreatDoorXTmplReads7
import Derived.Test.YtpanodaecjlgaaaGreatDoorXTmplReads4
import Derived.Laws.AppendOwn
import Derived.Lib.AppendZeros
/- Whether templates fit together: an item by its name. -/
namespace Go.Proofs.YtpanodaecjlgaaaGreatDoor.tm
set_option linter.unusedVariables false
open Go.ChangeShapes Go.WideShapes Go.ChangeAt Go.RowKit Go.Shelf
open mem lx ex

theorem lie_bl {w w' : World} {ok : Nat → Prop} {p : Option Addr} {n c : Nat} {cs : List C} (h : ir.Lie w ok p n c cs) (hb : Bl w w') : ir.Lie w' ok p n c cs := h.keep (fun g _ hg => Below.block hb g hg) hb.size
end Go.Proofs.YtpanodaecjlgaaaGreatDoor.tm
/- Whether templates fit together: the ends of a rule; what is told. -/
namespace Go.Proofs.YtpanodaecjlgaaaGreatDoor.tm
set_option linter.unusedVariables false
open Go.ChangeShapes Go.WideShapes Go.ChangeAt Go.RowKit Go.Shelf
open mem lx ex

def thrownY (B : Nat) : Ending := .panicked [{ v := .iface 86 (.agg #[.iface 110 (.pointer (some ⟨B, 0, none⟩))]), recovered := false }]
end Go.Proofs.YtpanodaecjlgaaaGreatDoor.tm
/- Whether templates fit together: sets of names; whether an expression's names are seen. -/
namespace Go.Proofs.YtpanodaecjlgaaaGreatDoor.tm
set_option linter.unusedVariables false
open Go.ChangeShapes Go.WideShapes Go.ChangeAt Go.RowKit Go.Shelf
open mem lx ex
open Go.Maps

theorem om_drop {w : World} {b c : Nat} {f : List UInt8 → Option Int} (h : Om w b f c) (t : ByteArray) (ht : t.size ≤ 5000) (ty : TypeId) :
    ∃ w', (Builtin.delete_ #[66, 9] ty #[.map (some b), .string t]).run Tryz.prog w = .ok (.tuple #[]) w' ∧ Om w' b (fun y => if y = t.data.toList then none else f y) c ∧ w.grownBy w' (some b) := by
  obtain ⟨D, h1, h2⟩ := h
  obtain ⟨w', hr, ho, hg⟩ := h1.drop lawS Tryz.underlying66 (WideMaps.keyOf_string_mk Tryz.underlying9 (s := t) (by unfold maxLen; omega)) ty
  refine ⟨w', hr, ⟨_, ho, fun y hy => ?_⟩, hg.grown⟩
  show Maps.has (D.del (skey t.data.toList)) (skey y) = _ ∧ (D.del (skey t.data.toList)).atKey (skey y) _ = _
  by_cases e : y = t.data.toList
  · subst e
    rw [has_del_same, atKey_del_same]
    simp
  · rw [has_del_other (skey_inj e), atKey_del_other (skey_inj e)]
    simp only [if_neg e]
    exact h2 y hy
/-- A map that holds just these names. -/
def SetM (w : World) (b : Nat) (S : List (List UInt8)) (k : Nat) : Prop := ∃ f c, Om w b f c ∧ c ≤ k ∧ ∀ y, (f y).isSome = true ↔ y ∈ S
theorem SetM.made (w : World) : SetM (w.alloc (.map #[] 0)) w.heap.size [] 0 := ⟨_, _, Om.made w, Nat.le_refl _, fun y => by simp⟩
theorem SetM.step {w w' : World} {b k : Nat} {S : List (List UInt8)} {row : Option Nat} (h : SetM w b S k) (hg : w.grownBy w' row) (hne : some b ≠ row) : SetM w' b S k := by
  obtain ⟨f, c, h1, h2, h3⟩ := h
  exact ⟨f, c, h1.step hg hne, h2, h3⟩
theorem SetM.bl {w w' : World} {b k : Nat} {S : List (List UInt8)} (h : SetM w b S k) (hb : Bl w w') : SetM w' b S k := h.step (row := none) ⟨hb.os, hb.tape, hb.output, hb.size, fun k hk _ => Below.block hb k hk⟩ (by simp)
theorem SetM.mono {w : World} {b k k' : Nat} {S : List (List UInt8)} (h : SetM w b S k) (hk : k ≤ k') : SetM w b S k' := by
  obtain ⟨f, c, h1, h2, h3⟩ := h
  exact ⟨f, c, h1, by omega, h3⟩
theorem SetM.same {w : World} {b k : Nat} {S S' : List (List UInt8)} (h : SetM w b S k) (hs : ∀ y, y ∈ S ↔ y ∈ S') : SetM w b S' k := by
  obtain ⟨f, c, h1, h2, h3⟩ := h
  exact ⟨f, c, h1, h2, fun y => (h3 y).trans (hs y)⟩
theorem SetM.lt {w : World} {b k : Nat} {S : List (List UInt8)} (h : SetM w b S k) : b < w.heap.size := by
  obtain ⟨f, c, h1, h2, h3⟩ := h
  exact om_lt h1
theorem SetM.look {w : World} {b k : Nat} {S : List (List UInt8)} (h : SetM w b S k) (t : List UInt8) (ht : t.length ≤ 5000) :
    ∃ x : Int, (Instr.lookup 66 (.map (some b)) (.string (tx t)) true).run Tryz.prog w = .ok (.tuple #[.int .i64 x, .bool (decide (t ∈ S))]) w := by
  obtain ⟨f, c, h1, h2, h3⟩ := h
  have := h1.look (tx t) (by rw [tx_size]; exact ht)
  have e : (tx t).data.toList = t := L_tx _
  rw [e] at this
  have hb : (f t).isSome = decide (t ∈ S) := by rw [Bool.eq_iff_iff, h3 t]; simp
  rw [hb] at this
  exact ⟨_, this⟩
theorem SetM.put {w : World} {b k : Nat} {S : List (List UInt8)} (h : SetM w b S k) (t : List UInt8) (x : Int) (ht : t.length ≤ 5000) (hx : R64 x) (hk : k ≤ 5000) :
    ∃ w', (Instr.mapUpdate 66 (.map (some b)) (.string (tx t)) (.int .i64 x)).run Tryz.prog w = .ok () w' ∧ SetM w' b (t :: S) (k + 1) ∧ w.grownBy w' (some b) := by
  obtain ⟨f, c, h1, h2, h3⟩ := h
  obtain ⟨w', r, o, g⟩ := h1.put (tx t) x (by rw [tx_size]; exact ht) hx (by omega)
  have e : (tx t).data.toList = t := L_tx _
  rw [e] at o
  refine ⟨w', r, ⟨_, _, o, by omega, fun y => ?_⟩, g⟩
  by_cases hy : y = t
  · simp [hy]
  · simp only [List.mem_cons, hy, false_or]
    exact h3 y
theorem SetM.drop {w : World} {b k : Nat} {S : List (List UInt8)} (h : SetM w b S k) (t : List UInt8) (ht : t.length ≤ 5000) (ty : TypeId) :
    ∃ w', (Builtin.delete_ #[66, 9] ty #[.map (some b), .string (tx t)]).run Tryz.prog w = .ok (.tuple #[]) w' ∧ SetM w' b (S.filter (fun y => y ≠ t)) k ∧ w.grownBy w' (some b) := by
  obtain ⟨f, c, h1, h2, h3⟩ := h
  obtain ⟨w', r, o, g⟩ := om_drop h1 (tx t) (by rw [tx_size]; exact ht) ty
  have e : (tx t).data.toList = t := L_tx _
  rw [e] at o
  refine ⟨w', r, ⟨_, _, o, h2, fun y => ?_⟩, g⟩
  by_cases hy : y = t
  · simp [hy]
  · simp only [if_neg hy, List.mem_filter]
    rw [h3 y]
    simp [hy]
end Go.Proofs.YtpanodaecjlgaaaGreatDoor.tm
/- Whether templates fit together: a rule. -/
namespace Go.Proofs.YtpanodaecjlgaaaGreatDoor.tm
set_option linter.unusedVariables false
open Go.ChangeShapes Go.WideShapes Go.ChangeAt Go.RowKit Go.Shelf
open mem lx ex

end Go.Proofs.YtpanodaecjlgaaaGreatDoor.tm
/- A row of numbers that grows: what append makes of it, and what lies in it then; two rows that lie apart. -/
namespace Go.Proofs.YtpanodaecjlgaaaGreatDoor.ri
set_option linter.unusedVariables false
open Go.ChangeShapes Go.WideShapes Go.ChangeAt Go.RowKit
open mem

def rowI (l : List Int) : List Value := l.map (Value.int .i64)
theorem rowI_get (l : List Int) (k : Nat) (h : k < l.length) : (rowI l)[k]? = some (.int .i64 (l.getD k 0)) := by simp [rowI, h]
theorem infoI : (Tryz.prog.info? 3).map (fun i => (i.zero, i.size, i.bytes)) = some (some (.int .i64 0), 1, 8) := by kernel_rfl
theorem infoI' : ∃ i, Tryz.prog.info? 3 = some i ∧ i.zero = some (.int .i64 0) ∧ i.size = 1 ∧ i.bytes = 8 := by
  obtain ⟨i, h1, h2⟩ := Option.map_eq_some_iff.1 infoI
  simp only [Prod.mk.injEq] at h2
  exact ⟨i, h1, h2.1, h2.2.1, h2.2.2⟩
/-- A row of the call's own that holds just these numbers. -/
def Own (w : World) (base : Nat) (v : Value) (l : List Int) : Prop := w.ownsRow base 3 1 v l.length (rowI l)
theorem Own.nil (w : World) (base : Nat) : Own w base (.slice none 0 0) [] := World.ownsRow_nil _ _ _ _
theorem Own.shape {w : World} {base : Nat} {v : Value} {l : List Int} (h : Own w base v l) : (v = .slice none 0 0 ∧ l = []) ∨
    ∃ g cap, v = .slice (some ⟨g, 0, none⟩) l.length cap ∧ base ≤ g ∧ g < w.heap.size ∧ l.length ≤ cap ∧ cap ≤ maxLen ∧ ∀ k, k < l.length → w.cell? ⟨g, k, none⟩ = some (.int .i64 (l.getD k 0)) := by
  rcases h.2 with ⟨h1, h2⟩ | ⟨g, cap, cur, rfl, hbg, hg, hnc, hcm, hcs, htake⟩
  · exact Or.inl ⟨h1, List.eq_nil_of_length_eq_zero h2⟩
  · refine Or.inr ⟨g, cap, rfl, hbg, ?_, hnc, hcm, fun k hk => ?_⟩
    · rcases Nat.lt_or_ge g w.heap.size with h | h
      · exact h
      · rw [Array.getElem?_eq_none h] at hg; cases hg
    · have := rowI_get l k hk
      rw [← htake, Nat.mul_one, List.getElem?_take, if_pos hk] at this
      simp only [World.cell?, hg]
      simpa using this
theorem Own.block {w : World} {base : Nat} {v : Value} {l : List Int} (h : Own w base v l) : ∀ k, v.ownBlock = some k → base ≤ k ∧ k < w.heap.size := World.ownsRow.lt h
theorem Own.step {w w' : World} {base : Nat} {v : Value} {l : List Int} (h : Own w base v l) (hb : Bl w w') : Own w' base v l := by
  refine ⟨h.1, ?_⟩
  rcases h.2 with h | ⟨g, cap, cur, h1, h2, h3, h4⟩
  · exact Or.inl h
  · refine Or.inr ⟨g, cap, cur, h1, h2, ?_, h4⟩
    have hg : g < w.heap.size := by
      rcases Nat.lt_or_ge g w.heap.size with h | h
      · exact h
      · rw [Array.getElem?_eq_none h] at h3; cases h3
    rw [Below.block hb g hg]
    exact h3
theorem Own.kept {w w' : World} {base : Nat} {v : Value} {l : List Int} {row : Option Nat} (h : Own w base v l) (hg : w.grownBy w' row) (hne : ∀ k, v.ownBlock = some k → row ≠ some k) : Own w' base v l :=
  World.ownsRow.kept h hg (by
    cases e : v.ownBlock with
    | none => exact Or.inl rfl
    | some k => exact Or.inr (fun e' => hne k e e'.symm))
theorem bl_grown {w0 w w' : World} {row : Option Nat} (h : Bl w0 w) (hg : w.grownBy w' row) (hrow : ∀ k, row = some k → w0.heap.size ≤ k) : Bl w0 w' := by
  refine ⟨hg.os.trans h.os, hg.tape.trans h.tape, hg.output.trans h.output, Nat.le_trans h.size hg.size, fun k hk => ?_⟩
  rw [hg.block k (Nat.lt_of_lt_of_le hk h.size) (fun e => by have := hrow k e.symm; omega)]
  exact h.block k hk
theorem app_one (w : World) (base : Nat) (v : Value) (l : List Int) (z : Int) (X : Nat) (hown : Own w base v l) (hX : w.cell? ⟨X, 0, none⟩ = some (.int .i64 z)) (hn : l.length ≤ 5000) (hb : base ≤ w.heap.size) :
    ∃ v' w', (Builtin.append_ #[162, 162] 162 #[v, .slice (some ⟨X, 0, none⟩) 1 1]).run Tryz.prog w = .ok v' w' ∧ Own w' base v' (l ++ [z]) ∧ w.grownBy w' v.ownBlock ∧ (v'.ownBlock = v.ownBlock ∨ v'.ownBlock = some w.heap.size) := by
  obtain ⟨i, hi, hz, h1, h2⟩ := infoI'
  have hnews : ∀ j u, [Value.int .i64 z][j]? = some u → w.cell? ((⟨X, 0, none⟩ : Addr).add j) = some u := fun j u hu => by
    cases j with
    | zero => simp at hu; subst hu; simpa [Addr.add] using hX
    | succ j => simp at hu
  obtain ⟨v', w', hr, ho, hg, _⟩ := run_append_own (P := Tryz.prog) w base 162 162 3 i (.int .i64 0) 1 8 Tryz.underlying162 hi hz h1 h2 rfl (by decide) v l.length (rowI l) hown
    ⟨X, 0, none⟩ 1 1 [.int .i64 z] rfl hnews (fun u hu => by simp at hu; subst hu; rfl) (by simp [maxLen]; omega) (by omega) hb
  refine ⟨v', w', hr, ?_, hg, ?_⟩
  · have e : rowI (l ++ [z]) = rowI l ++ [.int .i64 z] := by simp [rowI]
    unfold Own
    rw [e, List.length_append]
    exact ho
  · rcases hown.2 with ⟨rfl, hl0⟩ | ⟨g, cap, cur, rfl, hbg, hg, hnc, hcm, hcs, htake⟩
    · have hr2 := run_append_nil (P := Tryz.prog) w 162 162 3 i (.int .i64 0) Tryz.underlying162 hi hz ⟨X, 0, none⟩ 1 1 [.int .i64 z] (by rw [h1]; rfl) hnews (by omega) (by omega) (by rw [h2]; omega)
      rw [hr2] at hr
      injection hr with e1 _
      exact Or.inr (by rw [← e1]; rfl)
    · by_cases hroom : l.length + 1 ≤ cap
      · have hr2 := run_append_room (P := Tryz.prog) w 162 162 3 i Tryz.underlying162 hi g l.length cap cur hg ⟨X, 0, none⟩ 1 1 [.int .i64 z] (by rw [h1]; rfl) hnews (fun u hu => by simp at hu; subst hu; rfl) hroom (by rw [h1, hcs]; simp; omega)
        rw [hr2] at hr
        injection hr with e1 _
        exact Or.inl (by rw [← e1]; rfl)
      · have holds : ∀ j u, (rowI l)[j]? = some u → w.cell? ((⟨g, 0, none⟩ : Addr).add j) = some u := World.ownsRow.cells hown (g := g) rfl
        have hr2 := run_append_grow (P := Tryz.prog) w 162 162 3 i (.int .i64 0) Tryz.underlying162 hi hz ⟨g, 0, none⟩ l.length cap (rowI l) (by rw [h1]; exact hown.1) holds ⟨X, 0, none⟩ 1 1 [.int .i64 z] (by rw [h1]; rfl) hnews (by omega) (by omega) (growslice_fits (by omega) (by rw [h2]; omega))
        rw [hr2] at hr
        injection hr with e1 _
        exact Or.inr (by rw [← e1]; rfl)
/-- Two rows of the call's own that lie apart. -/
structure Own2 (w : World) (base : Nat) (v1 : Value) (l1 : List Int) (v2 : Value) (l2 : List Int) : Prop where
  a : Own w base v1 l1
  b : Own w base v2 l2
  apart : ∀ k, v1.ownBlock = some k → v2.ownBlock ≠ some k
  le : base ≤ w.heap.size
theorem Own2.step {w w' : World} {base : Nat} {v1 v2 : Value} {l1 l2 : List Int} (h : Own2 w base v1 l1 v2 l2) (hb : Bl w w') : Own2 w' base v1 l1 v2 l2 :=
  ⟨h.a.step hb, h.b.step hb, h.apart, Nat.le_trans h.le hb.size⟩
theorem Own2.alloc {w : World} {base : Nat} {v1 v2 : Value} {l1 l2 : List Int} (h : Own2 w base v1 l1 v2 l2) (o : Obj) : Own2 (w.alloc o) base v1 l1 v2 l2 := h.step ((Bl.refl w).alloc o)
theorem Own2.first {w w' : World} {base : Nat} {v1 v2 v' : Value} {l1 l2 l' : List Int} (h : Own2 w base v1 l1 v2 l2) (ho : Own w' base v' l') (hg : w.grownBy w' v1.ownBlock) (hv : v'.ownBlock = v1.ownBlock ∨ v'.ownBlock = some w.heap.size) : Own2 w' base v' l' v2 l2 := by
  refine ⟨ho, h.b.kept hg (fun k e e' => h.apart k e' e), fun k e e' => ?_, Nat.le_trans h.le hg.size⟩
  rcases hv with hv | hv
  · exact h.apart k (by rw [← hv]; exact e) e'
  · have := (h.b.block k e').2
    rw [hv] at e
    injection e with e
    omega
theorem Own2.second {w w' : World} {base : Nat} {v1 v2 v' : Value} {l1 l2 l' : List Int} (h : Own2 w base v1 l1 v2 l2) (ho : Own w' base v' l') (hg : w.grownBy w' v2.ownBlock) (hv : v'.ownBlock = v2.ownBlock ∨ v'.ownBlock = some w.heap.size) : Own2 w' base v1 l1 v' l' := by
  refine ⟨h.a.kept hg (fun k e e' => h.apart k e e'), ho, fun k e e' => ?_, Nat.le_trans h.le hg.size⟩
  rcases hv with hv | hv
  · exact h.apart k e (by rw [← hv]; exact e')
  · have := (h.a.block k e).2
    rw [hv] at e'
    injection e' with e'
    omega
end Go.Proofs.YtpanodaecjlgaaaGreatDoor.ri
