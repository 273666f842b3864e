/- Texts laid together: ExV, TmP, TmQ, TmC, ItRow. -/
import Derived.Test.YtococaecjecjgaaGreatDoorXLayoutReads8
import Derived.Maps.OwnSet
import Derived.StringKeys
import Derived.Test.YtococaecjecjgaaGreatDoorXLayoutReads4
import Derived.Test.YtococaecjecjgaaGreatDoorXLayoutReads7
import Derived.Deep.Upon
namespace Go.Proofs.YtococaecjecjgaaGreatDoor.ex
set_option linter.unusedVariables false
open Go.ChangeShapes Go.WideShapes Go.ChangeAt Go.RowKit
open mem lx
open Go.Maps

theorem lawS : Keyed Tryz.prog 9 := string_keyed Tryz.underlying9
def skey (x : List UInt8) : Lit := .string x
theorem skey_is (x : List UInt8) : WideAt.IsKeyLit (skey x) := trivial
theorem skey_inj {a b : List UInt8} (h : a ≠ b) : skey a ≠ skey b := fun e => h (by unfold skey at e; injection e)
def Om (w : World) (b : Nat) (f : List UInt8 → Option Int) (c : Nat) : Prop :=
  ∃ D : DataW Unit, w.ownsMap Tryz.prog 9 (plainElem Tryz.prog 3) b c D ∧ ∀ x, x.length ≤ 5000 → Maps.has D (skey x) = (f x).isSome ∧ D.atKey (skey x) (.lit (.int .i64 0)) = .lit (.int .i64 ((f x).getD 0))
theorem Om.step {w w' : World} {b c : Nat} {f : List UInt8 → Option Int} {row : Option Nat} (h : Om w b f c) (hg : w.grownBy w' row) (hne : some b ≠ row) : Om w' b f c := by
  obtain ⟨D, h1, h2⟩ := h
  exact ⟨D, h1.kept hg hne, h2⟩
theorem Om.made (w : World) : Om (w.alloc (.map #[] 0)) w.heap.size (fun _ => none) 0 :=
  ⟨_, World.ownsMap_made w Tryz.prog 9 _, fun x _ => ⟨rfl, rfl⟩⟩
theorem zero_int (w : World) : (zeroValue 3).run Tryz.prog w = .ok (.int .i64 0) w := by kernel_rfl
theorem Om.look {w : World} {b c : Nat} {f : List UInt8 → Option Int} (h : Om w b f c) (t : ByteArray) (ht : t.size ≤ 5000) :
    (Instr.lookup 100 (.map (some b)) (.string t) true).run Tryz.prog w = .ok (.tuple #[.int .i64 ((f t.data.toList).getD 0), .bool (f t.data.toList).isSome]) w := by
  obtain ⟨D, h1, h2⟩ := h
  obtain ⟨x, ps, hrun, hx⟩ := h1.look_ok lawS Tryz.underlying100 (zero_int w) (plainElem_int Tryz.underlying3 (a := 0) (by decide)) (WideMaps.keyOf_string_mk Tryz.underlying9 (s := t) (by unfold maxLen; omega))
  obtain ⟨h3, h4⟩ := h2 t.data.toList (by rw [Array.length_toList]; exact ht)
  have h4' : D.atKey (.string t.data.toList) (.lit (.int .i64 0)) = .lit (.int .i64 ((f t.data.toList).getD 0)) := h4
  have h3' : Maps.has D (.string t.data.toList) = (f t.data.toList).isSome := h3
  rw [h4'] at hx
  obtain ⟨a, rfl, ha, _⟩ := plainElem_int_inv Tryz.underlying3 hx
  simp only [Prod.mk.injEq, DataW.lit.injEq, Lit.int.injEq, true_and] at ha
  rw [hrun, h3', ha.1]
theorem Om.get {w : World} {b c : Nat} {f : List UInt8 → Option Int} (h : Om w b f c) (t : ByteArray) (ht : t.size ≤ 5000) :
    (Instr.lookup 100 (.map (some b)) (.string t) false).run Tryz.prog w = .ok (.int .i64 ((f t.data.toList).getD 0)) w := by
  obtain ⟨D, h1, h2⟩ := h
  obtain ⟨x, hrun, hx, _⟩ := h1.lookup_int lawS Tryz.underlying100 Tryz.underlying3 (zero_int w) (WideMaps.keyOf_string_mk Tryz.underlying9 (s := t) (by unfold maxLen; omega))
  obtain ⟨h3, h4⟩ := h2 t.data.toList (by rw [Array.length_toList]; exact ht)
  have h4' : D.atKey (.string t.data.toList) (.lit (.int .i64 0)) = .lit (.int .i64 ((f t.data.toList).getD 0)) := h4
  rw [h4'] at hx
  simp only [DataW.lit.injEq, Lit.int.injEq, true_and] at hx
  rw [hrun, hx]
theorem Om.put {w : World} {b c : Nat} {f : List UInt8 → Option Int} (h : Om w b f c) (t : ByteArray) (x : Int) (ht : t.size ≤ 5000) (hx : R64 x) (hc : c ≤ 5000) :
    ∃ w', (Instr.mapUpdate 100 (.map (some b)) (.string t) (.int .i64 x)).run Tryz.prog w = .ok () w' ∧ Om w' b (fun y => if y = t.data.toList then some x else f y) (c + 1) ∧ w.grownBy w' (some b) := by
  obtain ⟨D, h1, h2⟩ := h
  obtain ⟨w', hr, ho, hg⟩ := h1.update lawS Tryz.underlying100 (by unfold maxLen; omega) (WideMaps.keyOf_string_mk Tryz.underlying9 (s := t) (by unfold maxLen; omega)) (plainElem_int Tryz.underlying3 (a := x) (WalkArith.wf_i64 (by unfold R64 at hx; omega)))
  refine ⟨w', hr, ⟨_, ho, fun y hy => ?_⟩, hg⟩
  show Maps.has (D.put (skey t.data.toList) _) (skey y) = _ ∧ (D.put (skey t.data.toList) _).atKey (skey y) _ = _
  by_cases e : y = t.data.toList
  · subst e
    rw [has_put_same h1.isMap (skey_is _), atKey_put_same h1.isMap (skey_is _)]
    simp
  · rw [has_put_other (skey_inj e), atKey_put_other (skey_inj e)]
    simp only [if_neg e]
    exact h2 y hy
theorem Om.isM {w : World} {b c : Nat} {f : List UInt8 → Option Int} (h : Om w b f c) : IsM w (.map (some b)) f := by
  refine ⟨fun w' hb t ht => ?_⟩
  have hg : w.grownBy w' none := ⟨hb.os, hb.tape, hb.output, hb.size, fun k hk _ => Below.block hb k hk⟩
  have := (h.step hg (by simp)).look (tx t) (by rw [tx_size]; omega)
  rw [show (tx t).data.toList = t from L_tx t] at this
  rw [this]
  cases f t <;> rfl
end Go.Proofs.YtococaecjecjgaaGreatDoor.ex
namespace Go.Proofs.YtococaecjecjgaaGreatDoor.tm
set_option linter.unusedVariables false
open lx ex

structure D where
  kd : Nat
  at_ : Nat
  nm : List UInt8
  ty : List UInt8
  wd : Nat
  od : Nat
  sg : Bool
  mn : Bool
  ct : Option Ex
  ru : Nat
  f1 : List UInt8
  l1 : List UInt8
deriving Inhabited
def D0 : D := ⟨0, 0, [], [], 0, 0, false, false, none, 0, [], []⟩
inductive Its where
  | nil
  | cons (d : D) (sub tl : Its)
deriving Inhabited
def Its.len : Its → Nat
  | .nil => 0
  | .cons _ _ tl => tl.len + 1
structure Ty where
  nm : List UInt8
  at_ : Nat
  l : Its
deriving Inhabited
def wStruct : List UInt8 := [115, 116, 114, 117, 99, 116]
def wBytes : List UInt8 := [98, 121, 116, 101, 115]
def wWhen : List UInt8 := [119, 104, 101, 110]
def wSize : List UInt8 := [115, 105, 122, 101]
def wCount : List UInt8 := [99, 111, 117, 110, 116]
def wCheck : List UInt8 := [99, 104, 101, 99, 107]
def numW : List (List UInt8 × Nat × Nat × Bool) :=
  [([117, 56], 1, 0, false), ([105, 56], 1, 0, true),
   ([117, 49, 54, 108, 101], 2, 0, false), ([117, 49, 54, 98, 101], 2, 1, false), ([105, 49, 54, 108, 101], 2, 0, true), ([105, 49, 54, 98, 101], 2, 1, true),
   ([117, 51, 50, 108, 101], 4, 0, false), ([117, 51, 50, 98, 101], 4, 1, false), ([105, 51, 50, 108, 101], 4, 0, true), ([105, 51, 50, 98, 101], 4, 1, true),
   ([105, 54, 52, 108, 101], 8, 0, true), ([105, 54, 52, 98, 101], 8, 1, true)]
def numOf (t : List UInt8) : Option (Nat × Nat × Bool) := (numW.find? (fun p => p.1 == t)).map (·.2)
def resv (t : List UInt8) : Bool := [wStruct, wBytes, wWhen, wSize, wCount, wCheck].contains t || (numOf t).isSome
abbrev Rs (α : Type) := Except (Int × Nat) (α × List Tk)
section
variable (nb : List UInt8 → Int × Int) (en : Nat)
def want (m : List UInt8) (ts : List Tk) : Except (Int × Nat) (List Tk) := if (hd en ts).t = m then .ok ts.tail else .error (3, (hd en ts).a)
def name (ts : List Tk) : Rs (List UInt8) :=
  if resv (hd en ts).t = true ∨ isN (hd en ts).t = false then .error (3, (hd en ts).a)
  else if 12 < (hd en ts).t.length then .error (4, (hd en ts).a)
  else .ok ((hd en ts).t, ts.tail)
def rx (m : List UInt8) (ts : List Tk) : Rs Ex :=
  match row nb en (10 * ts.length + 10) 1 0 ts with
  | some (.ok (x, r)) => if (hd en r).t = m then .ok (x, r) else .error (3, (hd en r).a)
  | some (.error e) => .error e
  | none => .error (0, 0)
def many (ts : List Tk) : Rs Ex :=
  match want en [91] ts with
  | .error e => .error e
  | .ok r => match rx nb en [93] r with
    | .error e => .error e
    | .ok (x, r) => .ok (x, r.tail)
def ruleOf (t : List UInt8) : Nat := if t = wSize then 1 else if t = wCount then 2 else if t = wCheck then 3 else 0
def rule (d : D) (ts : List Tk) : Rs D :=
  if ruleOf (hd en ts).t = 0 then .error (3, (hd en ts).a)
  else match name en ts.tail with
    | .error e => .error e
    | .ok (a, r) =>
      if ruleOf (hd en ts).t = 3 then
        if (hd en r).t = [59] then .ok ({ d with ru := 3, f1 := a, l1 := a }, r)
        else match name en r with
          | .error e => .error e
          | .ok (b, r) => .ok ({ d with ru := 3, f1 := a, l1 := b }, r)
      else .ok ({ d with ru := ruleOf (hd en ts).t, f1 := a }, r)
def kind (ts : List Tk) : Rs D :=
  match numOf (hd en ts).t with
  | some (w, o, s) => .ok ({ D0 with kd := 1, wd := w, od := o, sg := s }, ts.tail)
  | none => match name en ts with
    | .error e => .error e
    | .ok (t, r) => .ok ({ D0 with kd := 3, ty := t }, r)
def mark (d : D) (ts : List Tk) : Rs D :=
  if (hd en ts).t = [91] then match many nb en ts with
    | .error e => .error e
    | .ok (x, r) => .ok ({ d with mn := true, ct := some x }, r)
  else if (hd en ts).t = [61] ∧ d.kd = 1 then rule en d ts.tail
  else .ok (d, ts)
def part (ts : List Tk) : Rs D :=
  match kind en ts with
  | .error e => .error e
  | .ok (d, r) => match name en r with
    | .error e => .error e
    | .ok (t, r) => match mark nb en { d with nm := t } r with
      | .error e => .error e
      | .ok (d, r) => match want en [59] r with
        | .error e => .error e
        | .ok r => .ok (d, r)
def byts (ts : List Tk) : Rs D :=
  match name en ts with
  | .error e => .error e
  | .ok (t, r) => match many nb en r with
    | .error e => .error e
    | .ok (x, r) => match want en [59] r with
      | .error e => .error e
      | .ok r => .ok ({ D0 with kd := 2, nm := t, ct := some x }, r)
variable (inner : List Tk → Rs Its)
def item (ts : List Tk) : Rs (D × Its) :=
  if (hd en ts).t = wWhen then
    match rx nb en [123] ts.tail with
    | .error e => .error e
    | .ok (x, r) => match inner r with
      | .error e => .error e
      | .ok (l, r) => .ok (({ D0 with kd := 4, at_ := (hd en ts).a, ct := some x }, l), r)
  else if (hd en ts).t = wBytes then
    match byts nb en ts.tail with
    | .error e => .error e
    | .ok (d, r) => .ok (({ d with at_ := (hd en ts).a }, .nil), r)
  else match part nb en ts with
    | .error e => .error e
    | .ok (d, r) => .ok (({ d with at_ := (hd en ts).a }, .nil), r)
def loop : Nat → List Tk → Rs Its
  | 0, ts => if (hd en ts).t = [125] then .ok (.nil, ts.tail) else .error (4, (hd en ts).a)
  | n + 1, ts =>
    if (hd en ts).t = [125] then .ok (.nil, ts.tail)
    else match item nb en inner ts with
      | .error e => .error e
      | .ok ((d, s), r) => match loop n r with
        | .error e => .error e
        | .ok (l, r) => .ok (.cons d s l, r)
def blk : Nat → List Tk → Rs Its
  | 0, ts => if (hd en ts).t = [123] then .error (4, (hd en ts).a) else .error (3, (hd en ts).a)
  | k + 1, ts => if (hd en ts).t = [123] then loop nb en (blk k) 16 ts.tail else .error (3, (hd en ts).a)
def typs : Nat → List Tk → Except (Int × Nat) (List Ty)
  | _, [] => .ok []
  | 0, t :: _ => if t.t = wStruct then .error (4, t.a) else .error (3, t.a)
  | n + 1, t :: r =>
    if t.t = wStruct then
      match name en r with
      | .error e => .error e
      | .ok (m, r') => match blk nb en 8 r' with
        | .error e => .error e
        | .ok (l, r'') => match typs n r'' with
          | .error e => .error e
          | .ok q => .ok (⟨m, (hd en r).a, l⟩ :: q)
    else .error (3, t.a)
end
end Go.Proofs.YtococaecjecjgaaGreatDoor.tm
namespace Go.Proofs.YtococaecjecjgaaGreatDoor.tm
set_option linter.unusedVariables false
open lx ex

section
variable {ρ : List UInt8 → List UInt8} {nb : List UInt8 → Int × Int} {en en' : Nat}
theorem rx_is {m : List UInt8} {ts : List Tk} {x : Ex} {r : List Tk} (h : rx nb en m ts = .ok (x, r)) : row nb en (10 * ts.length + 10) 1 0 ts = some (.ok (x, r)) ∧ (hd en r).t = m := by
  unfold rx at h
  split at h
  · rename_i x' r' hr
    split at h
    · rename_i hm
      injection h with h
      injection h with h1 h2
      subst h1 h2
      exact ⟨hr, hm⟩
    · cases h
  · cases h
  · cases h
end
end Go.Proofs.YtococaecjecjgaaGreatDoor.tm
namespace Go.Proofs.YtococaecjecjgaaGreatDoor.tm
set_option linter.unusedVariables false
open lx ex

def mis (seen : List (List UInt8)) : Ex → Option Nat
  | .num _ _ => none
  | .nam a t => if t ∈ seen then none else some a
  | .bin _ _ l r => match mis seen l with
    | some p => some p
    | none => mis seen r
def misO (seen : List (List UInt8)) : Option Ex → Option Nat
  | none => none
  | some x => mis seen x
def Its.ds : Its → List D
  | .nil => []
  | .cons d _ t => d :: t.ds
theorem Its.ds_len (l : Its) : l.ds.length = l.len := by
  induction l with
  | nil => rfl
  | cons d s t _ ih => show t.ds.length + 1 = t.len + 1; rw [ih]
def nmd (ds : List D) (t : List UInt8) : Option Nat := ds.findIdx? (fun d => d.nm == t)
def ends (ds : List D) (d : D) : Option Nat × Option Nat := (nmd ds d.f1, if d.ru = 3 then nmd ds d.l1 else nmd ds d.f1)
def ruleW (ds : List D) (i : Nat) (d : D) : Option (Int × Nat) :=
  if d.ru = 0 then none
  else match ends ds d with
    | (some a, some b) =>
      if d.ru = 2 ∧ (ds[a]?.map (·.mn)) ≠ some true then some (13, d.at_)
      else if d.ru = 3 ∧ (d.wd ≠ 4 ∨ d.sg = true) then some (13, d.at_)
      else if b < a then some (10, d.at_)
      else if a ≤ i ∧ i ≤ b then some (6, d.at_)
      else none
    | _ => some (7, d.at_)
def isC (ds : List D) (k : Nat) : Bool := ds[k]?.map (·.ru) == some 3
def upTo (a b : Nat) : List Nat := (List.range (b + 1)).drop a
def under (ds : List D) (i : Nat) : List Nat :=
  match ds[i]? with
  | none => []
  | some d => match ends ds d with
    | (some a, some b) => (upTo a b).filter (isC ds)
    | _ => []
def bfs (ds : List D) (to : Nat) : Nat → List Nat → List Nat → Option Bool
  | 0, _, _ => none
  | _ + 1, _, [] => some false
  | f + 1, met, j :: r => if j = to then some true else if j ∈ met then bfs ds to f met r else bfs ds to f (j :: met) (r ++ under ds j)
def rnd (ds : List D) (i : Nat) : Bool := (bfs ds i ((ds.length + 1) * (ds.length + 1) + ds.length + 2) [] (under ds i)) == some true
def firstW (g : Nat → D → Option (Int × Nat)) : Nat → List D → Option (Int × Nat)
  | _, [] => none
  | i, d :: r => match g i d with
    | some e => some e
    | none => firstW g (i + 1) r
def cycW (ds : List D) (i : Nat) (d : D) : Option (Int × Nat) := if d.ru = 3 ∧ rnd ds i = true then some (11, d.at_) else none
def rulesW (ds : List D) : Option (Int × Nat) :=
  match firstW (ruleW ds) 0 ds with
  | some e => some e
  | none => firstW (cycW ds) 0 ds
def itemW (earl names seen : List (List UInt8)) (d : D) : Option (Int × Nat) :=
  if d.nm ∈ names then some (9, d.at_)
  else if d.kd = 3 ∧ d.ty ∉ earl then some (7, d.at_)
  else (misO seen d.ct).map fun p => (5, p)
def chkI (earl : List (List UInt8)) : Its → List (List UInt8) → List (List UInt8) → Except (Int × Nat) (List (List UInt8))
  | .nil, names, _ => .ok names
  | .cons d s t, names, seen =>
    if d.kd = 4 then
      match misO seen d.ct with
      | some p => .error (5, p)
      | none => match chkI earl s names seen with
        | .error e => .error e
        | .ok names' => match rulesW s.ds with
          | some e => .error e
          | none => chkI earl t names' seen
    else match itemW earl names seen d with
      | some e => .error e
      | none => chkI earl t (d.nm :: names) (if d.kd = 1 ∧ d.mn = false then d.nm :: seen else seen)
def chkB (earl : List (List UInt8)) (l : Its) (names seen : List (List UInt8)) : Except (Int × Nat) (List (List UInt8)) :=
  match chkI earl l names seen with
  | .error e => .error e
  | .ok names' => match rulesW l.ds with
    | some e => .error e
    | none => .ok names'
def chkT : List (List UInt8) → List Ty → Option (Int × Nat)
  | _, [] => none
  | earl, t :: r =>
    if t.nm ∈ earl then some (9, t.at_)
    else match chkB earl t.l [] [] with
      | .error e => some e
      | .ok _ => chkT (t.nm :: earl) r
def chk (l : List Ty) : Option (Int × Nat) := chkT [] l
/- With other names. -/
section
variable {ρ : List UInt8 → List UInt8}
end
end Go.Proofs.YtococaecjecjgaaGreatDoor.tm
namespace Go.Proofs.YtococaecjecjgaaGreatDoor.tm
set_option linter.unusedVariables false
open Go.ChangeShapes Go.WideShapes Go.ChangeAt Go.RowKit
open mem lx ex

structure C where
  d : D
  pc : Option Addr
  p : Option Addr
  n : Nat
  c : Nat
def cl (x : C) : List Value := [.int .i64 (x.d.kd : Int), .int .i64 (x.d.at_ : Int), .string (tx x.d.nm), .string (tx x.d.ty), .int .i64 (x.d.wd : Int), .int .i64 (x.d.od : Int), .bool x.d.sg, .bool x.d.mn, .pointer x.pc, .int .i64 (x.d.ru : Int), .string (tx x.d.f1), .string (tx x.d.l1), .slice x.p x.n x.c]
structure CT where
  nm : List UInt8
  a : Nat
  p : Option Addr
  n : Nat
  c : Nat
def clT (x : CT) : List Value := [.string (tx x.nm), .int .i64 (x.a : Int), .slice x.p x.n x.c]
namespace ir
def rowE (l : List C) : List Value := l.flatMap cl
theorem rowE_cons (x : C) (l : List C) : rowE (x :: l) = cl x ++ rowE l := by unfold rowE; rw [List.flatMap_cons]
theorem cl_len (x : C) : (cl x).length = 13 := rfl
theorem rowE_len (l : List C) : (rowE l).length = l.length * 13 := by
  induction l with
  | nil => rfl
  | cons x l ih => rw [rowE_cons, List.length_append, ih, cl_len]; simp only [List.length_cons]; omega
theorem rowE_append (a b : List C) : rowE (a ++ b) = rowE a ++ rowE b := by unfold rowE; rw [List.flatMap_append]
theorem rowE_get (l : List C) (k : Nat) (h : k < l.length) (j : Nat) (hj : j < 13) : (rowE l)[k * 13 + j]? = (cl l[k])[j]? := by
  induction l generalizing k with
  | nil => exact absurd h (Nat.not_lt_zero _)
  | cons x l ih =>
    rw [rowE_cons]
    cases k with
    | zero => rw [Nat.zero_mul, Nat.zero_add, List.getElem?_append_left (by rw [cl_len]; exact hj)]; rfl
    | succ k =>
      rw [List.getElem?_append_right (by rw [cl_len]; omega), cl_len, show (k + 1) * 13 + j - 13 = k * 13 + j by omega]
      exact ih k (by simpa using h)
theorem rowE_one (l : List C) (u : Value) (hu : u ∈ rowE l) : u.oneCell' = true := by
  unfold rowE at hu
  rw [List.mem_flatMap] at hu
  obtain ⟨y, _, hy⟩ := hu
  simp only [cl, List.mem_cons, List.not_mem_nil, or_false] at hy
  rcases hy with rfl | rfl | rfl | rfl | rfl | rfl | rfl | rfl | rfl | rfl | rfl | rfl | rfl <;> rfl
theorem infoE : (Tryz.prog.info? 60).map (fun i => (i.zero, i.size, i.bytes)) = some (some (.agg #[.int .i64 0, .int .i64 0, .string ⟨#[]⟩, .string ⟨#[]⟩, .int .i64 0, .int .i64 0, .bool false, .bool false, .pointer none, .int .i64 0, .string ⟨#[]⟩, .string ⟨#[]⟩, .slice none 0 0]), 13, 144) := by kernel_rfl
theorem infoE' : ∃ i, Tryz.prog.info? 60 = some i ∧ i.zero = some (.agg #[.int .i64 0, .int .i64 0, .string ⟨#[]⟩, .string ⟨#[]⟩, .int .i64 0, .int .i64 0, .bool false, .bool false, .pointer none, .int .i64 0, .string ⟨#[]⟩, .string ⟨#[]⟩, .slice none 0 0]) ∧ i.size = 13 ∧ i.bytes = 144 := by
  obtain ⟨i, h1, h2⟩ := Option.map_eq_some_iff.1 infoE
  simp only [Prod.mk.injEq] at h2
  exact ⟨i, h1, h2.1, h2.2.1, h2.2.2⟩
def Own (w : World) (base : Nat) (v : Value) (l : List C) : Prop := w.ownsRow base 60 13 v l.length (rowE l)
theorem Own.nil (w : World) (base : Nat) : Own w base (.slice none 0 0) [] := World.ownsRow_nil _ _ _ _
theorem Own.shape {w : World} {base : Nat} {v : Value} {l : List C} (h : Own w base v l) : (v = .slice none 0 0 ∧ l = []) ∨
    ∃ g cap, v = .slice (some ⟨g, 0, none⟩) l.length cap ∧ base ≤ g ∧ g < w.heap.size ∧ l.length ≤ cap ∧ cap ≤ maxLen ∧ (∀ j, w.frozen? ⟨g, j, none⟩ = false) ∧ ∀ j u, (rowE l)[j]? = some u → w.cell? ⟨g, j, none⟩ = some u := by
  rcases h.2 with ⟨h1, h2⟩ | ⟨g, cap, cur, rfl, hbg, hg, hnc, hcm, hcs, htake⟩
  · exact Or.inl ⟨h1, List.eq_nil_of_length_eq_zero h2⟩
  · refine Or.inr ⟨g, cap, rfl, hbg, lt_of_heap hg, hnc, hcm, fun j => by simp [World.frozen?, hg], fun j u hu => ?_⟩
    have hj : j < l.length * 13 := by
      have := (List.getElem?_eq_some_iff.1 hu).1
      rw [rowE_len] at this
      exact this
    rw [← htake, List.getElem?_take, if_pos hj] at hu
    rw [cell_of hg]
    simpa using hu
theorem Own.kind {w : World} {base g n cap : Nat} {l : List C} (h : Own w base (.slice (some ⟨g, 0, none⟩) n cap) l) : ∃ cur, w.heap[g]? = some (.cells cur 60 (0, 0)) := by
  rcases h.2 with ⟨h1, _⟩ | ⟨g', cap', cur, h1, h2, h3, _⟩
  · cases h1
  · simp only [Value.slice.injEq, Option.some.injEq, Addr.mk.injEq] at h1
    obtain ⟨⟨rfl, _, _⟩, _, _⟩ := h1
    exact ⟨cur, h3⟩
theorem Own.block {w : World} {base : Nat} {v : Value} {l : List C} (h : Own w base v l) : ∀ k, v.ownBlock = some k → base ≤ k ∧ k < w.heap.size := World.ownsRow.lt h
theorem Own.step {w w' : World} {base : Nat} {v : Value} {l : List C} (h : Own w base v l) (hb : ∀ g, base ≤ g → g < w.heap.size → w'.heap[g]? = w.heap[g]?) : Own w' base v l := by
  refine ⟨h.1, ?_⟩
  rcases h.2 with h | ⟨g, cap, cur, h1, h2, h3, h4⟩
  · exact Or.inl h
  · refine Or.inr ⟨g, cap, cur, h1, h2, ?_, h4⟩
    rw [hb g h2 (lt_of_heap h3)]
    exact h3
theorem Own.bl {w w' : World} {base : Nat} {v : Value} {l : List C} (h : Own w base v l) (hb : Bl w w') : Own w' base v l := h.step (fun g _ hg => Below.block hb g hg)
theorem Own.gp {w w' : World} {base P : Nat} {v : Value} {l : List C} (h : Own w base v l) (hb : Gp P w w') (hP : P < base) : Own w' base v l := h.step (fun g h1 hg => hb.block g hg (by omega))
theorem app_one (w : World) (base : Nat) (v : Value) (l : List C) (z : C) (x : Addr) (hown : Own w base v l) (hX : ∀ j u, (cl z)[j]? = some u → w.cell? (x.add j) = some u) (hn : l.length ≤ 20000) (hb : base ≤ w.heap.size) :
    ∃ v' w', (Builtin.append_ #[50, 50] 50 #[v, .slice (some x) 1 1]).run Tryz.prog w = .ok v' w' ∧ Own w' base v' (l ++ [z]) ∧ w.grownBy w' v.ownBlock := by
  obtain ⟨i, hi, hz, h1, h2⟩ := infoE'
  obtain ⟨v', w', hr, ho, hg, _⟩ := run_append_own (P := Tryz.prog) w base 50 50 60 i (.agg #[.int .i64 0, .int .i64 0, .string ⟨#[]⟩, .string ⟨#[]⟩, .int .i64 0, .int .i64 0, .bool false, .bool false, .pointer none, .int .i64 0, .string ⟨#[]⟩, .string ⟨#[]⟩, .slice none 0 0]) 13 144 Tryz.underlying50 hi hz h1 h2 rfl (by decide) v l.length (rowE l) hown
    x 1 1 (cl z) rfl hX (fun u hu => rowE_one [z] u (by rw [rowE_cons]; simp [hu])) (by simp [maxLen]; omega) (by omega) hb
  refine ⟨v', w', hr, ?_, hg⟩
  unfold Own
  rw [rowE_append, List.length_append]
  have e : rowE [z] = cl z := by rw [rowE_cons]; simp [rowE]
  rw [e]
  exact ho
def Lie (w : World) (ok : Nat → Prop) (p : Option Addr) (n c : Nat) (l : List C) : Prop :=
  n = l.length ∧ n ≤ c ∧ (l = [] ∨ ∃ g, p = some ⟨g, 0, none⟩ ∧ ok g ∧ g < w.heap.size ∧ ∀ j u, (rowE l)[j]? = some u → w.cell? ⟨g, j, none⟩ = some u)
theorem Own.lie {w : World} {base : Nat} {v : Value} {l : List C} (h : Own w base v l) : ∃ p c, v = .slice p l.length c ∧ Lie w (fun g => base ≤ g) p l.length c l := by
  rcases h.shape with ⟨rfl, rfl⟩ | ⟨g, cap, rfl, h1, h2, h4, _, _, hc⟩
  · exact ⟨none, 0, rfl, rfl, Nat.le_refl _, Or.inl rfl⟩
  · exact ⟨_, cap, rfl, rfl, h4, Or.inr ⟨g, rfl, h1, h2, hc⟩⟩
theorem Lie.keep {w w' : World} {ok : Nat → Prop} {p : Option Addr} {n c : Nat} {l : List C} (h : Lie w ok p n c l) (hk : ∀ g, ok g → g < w.heap.size → w'.heap[g]? = w.heap[g]?) (hs : w.heap.size ≤ w'.heap.size) : Lie w' ok p n c l := by
  obtain ⟨h1, h2, h3⟩ := h
  refine ⟨h1, h2, ?_⟩
  rcases h3 with h3 | ⟨g, e, h4, h5, h6⟩
  · exact Or.inl h3
  · refine Or.inr ⟨g, e, h4, by omega, fun j u hu => ?_⟩
    have := h6 j u hu
    unfold World.cell? at this ⊢
    rw [hk g h4 h5]
    exact this
theorem Lie.mono {w : World} {ok ok' : Nat → Prop} {p : Option Addr} {n c : Nat} {l : List C} (h : Lie w ok p n c l) (ho : ∀ g, ok g → g < w.heap.size → ok' g) : Lie w ok' p n c l := by
  obtain ⟨h1, h2, h3⟩ := h
  refine ⟨h1, h2, ?_⟩
  rcases h3 with h3 | ⟨g, e, h4, h5, h6⟩
  · exact Or.inl h3
  · exact Or.inr ⟨g, e, ho g h4 h5, h5, h6⟩
theorem Lie.at {w : World} {ok : Nat → Prop} {p : Option Addr} {n c : Nat} {l : List C} (h : Lie w ok p n c l) (k : Nat) (hk : k < l.length) : ∃ x : Addr, p = some x ∧ x.block < w.heap.size ∧ ok x.block ∧ ∀ j u, (cl l[k])[j]? = some u → w.cell? ⟨(x.add (k * 13)).block, (x.add (k * 13)).off + j, none⟩ = some u := by
  obtain ⟨h1, h2, h3⟩ := h
  rcases h3 with h3 | ⟨g, e, h4, h5, h6⟩
  · subst h3; exact absurd hk (Nat.not_lt_zero _)
  · refine ⟨_, e, h5, h4, fun j u hu => ?_⟩
    rw [Addr.add_lit, Nat.zero_add]
    have hj : j < 13 := by
      have := (List.getElem?_eq_some_iff.1 hu).1
      rw [cl_len] at this
      exact this
    exact h6 (k * 13 + j) u (by rw [rowE_get l k hk j hj]; exact hu)
end ir
namespace sr
def rowE (l : List CT) : List Value := l.flatMap clT
theorem rowE_cons (x : CT) (l : List CT) : rowE (x :: l) = clT x ++ rowE l := by unfold rowE; rw [List.flatMap_cons]
theorem cl_len (x : CT) : (clT x).length = 3 := rfl
theorem rowE_len (l : List CT) : (rowE l).length = l.length * 3 := by
  induction l with
  | nil => rfl
  | cons x l ih => rw [rowE_cons, List.length_append, ih, cl_len]; simp only [List.length_cons]; omega
theorem rowE_append (a b : List CT) : rowE (a ++ b) = rowE a ++ rowE b := by unfold rowE; rw [List.flatMap_append]
theorem rowE_get (l : List CT) (k : Nat) (h : k < l.length) (j : Nat) (hj : j < 3) : (rowE l)[k * 3 + j]? = (clT l[k])[j]? := by
  induction l generalizing k with
  | nil => exact absurd h (Nat.not_lt_zero _)
  | cons x l ih =>
    rw [rowE_cons]
    cases k with
    | zero => rw [Nat.zero_mul, Nat.zero_add, List.getElem?_append_left (by rw [cl_len]; exact hj)]; rfl
    | succ k =>
      rw [List.getElem?_append_right (by rw [cl_len]; omega), cl_len, show (k + 1) * 3 + j - 3 = k * 3 + j by omega]
      exact ih k (by simpa using h)
theorem rowE_one (l : List CT) (u : Value) (hu : u ∈ rowE l) : u.oneCell' = true := by
  unfold rowE at hu
  rw [List.mem_flatMap] at hu
  obtain ⟨y, _, hy⟩ := hu
  simp only [clT, List.mem_cons, List.not_mem_nil, or_false] at hy
  rcases hy with rfl | rfl | rfl <;> rfl
theorem infoE : (Tryz.prog.info? 96).map (fun i => (i.zero, i.size, i.bytes)) = some (some (.agg #[.string ⟨#[]⟩, .int .i64 0, .slice none 0 0]), 3, 48) := by kernel_rfl
theorem infoE' : ∃ i, Tryz.prog.info? 96 = some i ∧ i.zero = some (.agg #[.string ⟨#[]⟩, .int .i64 0, .slice none 0 0]) ∧ i.size = 3 ∧ i.bytes = 48 := by
  obtain ⟨i, h1, h2⟩ := Option.map_eq_some_iff.1 infoE
  simp only [Prod.mk.injEq] at h2
  exact ⟨i, h1, h2.1, h2.2.1, h2.2.2⟩
def Own (w : World) (base : Nat) (v : Value) (l : List CT) : Prop := w.ownsRow base 96 3 v l.length (rowE l)
theorem Own.nil (w : World) (base : Nat) : Own w base (.slice none 0 0) [] := World.ownsRow_nil _ _ _ _
theorem Own.shape {w : World} {base : Nat} {v : Value} {l : List CT} (h : Own w base v l) : (v = .slice none 0 0 ∧ l = []) ∨
    ∃ g cap, v = .slice (some ⟨g, 0, none⟩) l.length cap ∧ base ≤ g ∧ g < w.heap.size ∧ l.length ≤ cap ∧ cap ≤ maxLen ∧ (∀ j, w.frozen? ⟨g, j, none⟩ = false) ∧ ∀ j u, (rowE l)[j]? = some u → w.cell? ⟨g, j, none⟩ = some u := by
  rcases h.2 with ⟨h1, h2⟩ | ⟨g, cap, cur, rfl, hbg, hg, hnc, hcm, hcs, htake⟩
  · exact Or.inl ⟨h1, List.eq_nil_of_length_eq_zero h2⟩
  · refine Or.inr ⟨g, cap, rfl, hbg, lt_of_heap hg, hnc, hcm, fun j => by simp [World.frozen?, hg], fun j u hu => ?_⟩
    have hj : j < l.length * 3 := by
      have := (List.getElem?_eq_some_iff.1 hu).1
      rw [rowE_len] at this
      exact this
    rw [← htake, List.getElem?_take, if_pos hj] at hu
    rw [cell_of hg]
    simpa using hu
theorem Own.kind {w : World} {base g n cap : Nat} {l : List CT} (h : Own w base (.slice (some ⟨g, 0, none⟩) n cap) l) : ∃ cur, w.heap[g]? = some (.cells cur 96 (0, 0)) := by
  rcases h.2 with ⟨h1, _⟩ | ⟨g', cap', cur, h1, h2, h3, _⟩
  · cases h1
  · simp only [Value.slice.injEq, Option.some.injEq, Addr.mk.injEq] at h1
    obtain ⟨⟨rfl, _, _⟩, _, _⟩ := h1
    exact ⟨cur, h3⟩
theorem Own.block {w : World} {base : Nat} {v : Value} {l : List CT} (h : Own w base v l) : ∀ k, v.ownBlock = some k → base ≤ k ∧ k < w.heap.size := World.ownsRow.lt h
theorem Own.step {w w' : World} {base : Nat} {v : Value} {l : List CT} (h : Own w base v l) (hb : ∀ g, base ≤ g → g < w.heap.size → w'.heap[g]? = w.heap[g]?) : Own w' base v l := by
  refine ⟨h.1, ?_⟩
  rcases h.2 with h | ⟨g, cap, cur, h1, h2, h3, h4⟩
  · exact Or.inl h
  · refine Or.inr ⟨g, cap, cur, h1, h2, ?_, h4⟩
    rw [hb g h2 (lt_of_heap h3)]
    exact h3
theorem Own.bl {w w' : World} {base : Nat} {v : Value} {l : List CT} (h : Own w base v l) (hb : Bl w w') : Own w' base v l := h.step (fun g _ hg => Below.block hb g hg)
theorem Own.gp {w w' : World} {base P : Nat} {v : Value} {l : List CT} (h : Own w base v l) (hb : Gp P w w') (hP : P < base) : Own w' base v l := h.step (fun g h1 hg => hb.block g hg (by omega))
theorem app_one (w : World) (base : Nat) (v : Value) (l : List CT) (z : CT) (x : Addr) (hown : Own w base v l) (hX : ∀ j u, (clT z)[j]? = some u → w.cell? (x.add j) = some u) (hn : l.length ≤ 20000) (hb : base ≤ w.heap.size) :
    ∃ v' w', (Builtin.append_ #[22, 22] 22 #[v, .slice (some x) 1 1]).run Tryz.prog w = .ok v' w' ∧ Own w' base v' (l ++ [z]) ∧ w.grownBy w' v.ownBlock := by
  obtain ⟨i, hi, hz, h1, h2⟩ := infoE'
  obtain ⟨v', w', hr, ho, hg, _⟩ := run_append_own (P := Tryz.prog) w base 22 22 96 i (.agg #[.string ⟨#[]⟩, .int .i64 0, .slice none 0 0]) 3 48 Tryz.underlying22 hi hz h1 h2 rfl (by decide) v l.length (rowE l) hown
    x 1 1 (clT z) rfl hX (fun u hu => rowE_one [z] u (by rw [rowE_cons]; simp [hu])) (by simp [maxLen]; omega) (by omega) hb
  refine ⟨v', w', hr, ?_, hg⟩
  unfold Own
  rw [rowE_append, List.length_append]
  have e : rowE [z] = clT z := by rw [rowE_cons]; simp [rowE]
  rw [e]
  exact ho
def Lie (w : World) (ok : Nat → Prop) (p : Option Addr) (n c : Nat) (l : List CT) : Prop :=
  n = l.length ∧ n ≤ c ∧ (l = [] ∨ ∃ g, p = some ⟨g, 0, none⟩ ∧ ok g ∧ g < w.heap.size ∧ ∀ j u, (rowE l)[j]? = some u → w.cell? ⟨g, j, none⟩ = some u)
theorem Own.lie {w : World} {base : Nat} {v : Value} {l : List CT} (h : Own w base v l) : ∃ p c, v = .slice p l.length c ∧ Lie w (fun g => base ≤ g) p l.length c l := by
  rcases h.shape with ⟨rfl, rfl⟩ | ⟨g, cap, rfl, h1, h2, h4, _, _, hc⟩
  · exact ⟨none, 0, rfl, rfl, Nat.le_refl _, Or.inl rfl⟩
  · exact ⟨_, cap, rfl, rfl, h4, Or.inr ⟨g, rfl, h1, h2, hc⟩⟩
theorem Lie.keep {w w' : World} {ok : Nat → Prop} {p : Option Addr} {n c : Nat} {l : List CT} (h : Lie w ok p n c l) (hk : ∀ g, ok g → g < w.heap.size → w'.heap[g]? = w.heap[g]?) (hs : w.heap.size ≤ w'.heap.size) : Lie w' ok p n c l := by
  obtain ⟨h1, h2, h3⟩ := h
  refine ⟨h1, h2, ?_⟩
  rcases h3 with h3 | ⟨g, e, h4, h5, h6⟩
  · exact Or.inl h3
  · refine Or.inr ⟨g, e, h4, by omega, fun j u hu => ?_⟩
    have := h6 j u hu
    unfold World.cell? at this ⊢
    rw [hk g h4 h5]
    exact this
theorem Lie.mono {w : World} {ok ok' : Nat → Prop} {p : Option Addr} {n c : Nat} {l : List CT} (h : Lie w ok p n c l) (ho : ∀ g, ok g → g < w.heap.size → ok' g) : Lie w ok' p n c l := by
  obtain ⟨h1, h2, h3⟩ := h
  refine ⟨h1, h2, ?_⟩
  rcases h3 with h3 | ⟨g, e, h4, h5, h6⟩
  · exact Or.inl h3
  · exact Or.inr ⟨g, e, ho g h4 h5, h5, h6⟩
theorem Lie.at {w : World} {ok : Nat → Prop} {p : Option Addr} {n c : Nat} {l : List CT} (h : Lie w ok p n c l) (k : Nat) (hk : k < l.length) : ∃ x : Addr, p = some x ∧ x.block < w.heap.size ∧ ok x.block ∧ ∀ j u, (clT l[k])[j]? = some u → w.cell? ⟨(x.add (k * 3)).block, (x.add (k * 3)).off + j, none⟩ = some u := by
  obtain ⟨h1, h2, h3⟩ := h
  rcases h3 with h3 | ⟨g, e, h4, h5, h6⟩
  · subst h3; exact absurd hk (Nat.not_lt_zero _)
  · refine ⟨_, e, h5, h4, fun j u hu => ?_⟩
    rw [Addr.add_lit, Nat.zero_add]
    have hj : j < 3 := by
      have := (List.getElem?_eq_some_iff.1 hu).1
      rw [cl_len] at this
      exact this
    exact h6 (k * 3 + j) u (by rw [rowE_get l k hk j hj]; exact hu)
end sr
def IsO (w : World) : Option Addr → Option Ex → Prop
  | pc, none => pc = none
  | pc, some x => IsX w (.pointer pc) x
theorem IsO.keep {w w' : World} {pc : Option Addr} {o : Option Ex} (h : IsO w pc o) (hk : Kx w w') : IsO w' pc o := by
  cases o with
  | none => exact h
  | some x => exact IsX.keep hk h
def Rep (w : World) (ok : Nat → Prop) : Its → List C → Prop
  | .nil, cs => cs = []
  | .cons d s t, cs => ∃ c r, cs = c :: r ∧ c.d = d ∧ IsO w c.pc d.ct ∧ (∃ cs2, ir.Lie w ok c.p c.n c.c cs2 ∧ Rep w ok s cs2) ∧ Rep w ok t r
theorem Rep.keep {w w' : World} {ok : Nat → Prop} (hk : ∀ g, ok g → g < w.heap.size → w'.heap[g]? = w.heap[g]?) (hs : w.heap.size ≤ w'.heap.size) (hx : Kx w w') {l : Its} : ∀ {cs : List C}, Rep w ok l cs → Rep w' ok l cs := by
  induction l with
  | nil => intro cs h; exact h
  | cons d s t is it =>
    intro cs h
    obtain ⟨c, r, h1, h2, h3, ⟨cs2, h4, h5⟩, h6⟩ := h
    exact ⟨c, r, h1, h2, h3.keep hx, ⟨cs2, h4.keep hk hs, is h5⟩, it h6⟩
theorem Rep.mono {w : World} {ok ok' : Nat → Prop} (ho : ∀ g, ok g → g < w.heap.size → ok' g) {l : Its} : ∀ {cs : List C}, Rep w ok l cs → Rep w ok' l cs := by
  induction l with
  | nil => intro cs h; exact h
  | cons d s t is it =>
    intro cs h
    obtain ⟨c, r, h1, h2, h3, ⟨cs2, h4, h5⟩, h6⟩ := h
    exact ⟨c, r, h1, h2, h3, ⟨cs2, h4.mono ho, is h5⟩, it h6⟩
theorem Rep.len {w : World} {ok : Nat → Prop} {l : Its} : ∀ {cs : List C}, Rep w ok l cs → cs.length = l.len ∧ cs.map C.d = l.ds := by
  induction l with
  | nil => intro cs h; subst h; exact ⟨rfl, rfl⟩
  | cons d s t _ it =>
    intro cs h
    obtain ⟨c, r, rfl, h2, h3, _, h6⟩ := h
    obtain ⟨g1, g2⟩ := it h6
    exact ⟨by simp [Its.len, g1], by simp [Its.ds, g2, h2]⟩
def Its.app : Its → D → Its → Its
  | .nil, d, s => .cons d s .nil
  | .cons e u t, d, s => .cons e u (t.app d s)
theorem Rep.app {w : World} {ok : Nat → Prop} {c : C} {s : Its} (hc : IsO w c.pc c.d.ct) (hs : ∃ cs2, ir.Lie w ok c.p c.n c.c cs2 ∧ Rep w ok s cs2) {l : Its} : ∀ {cs : List C}, Rep w ok l cs → Rep w ok (l.app c.d s) (cs ++ [c]) := by
  induction l with
  | nil => intro cs h; subst h; exact ⟨c, [], rfl, rfl, hc, hs, rfl⟩
  | cons d u t _ it =>
    intro cs h
    obtain ⟨e, r, rfl, h2, h3, h4, h6⟩ := h
    exact ⟨e, r ++ [c], rfl, h2, h3, h4, it h6⟩
def IsL (w : World) (ok : Nat → Prop) (v : Value) (l : Its) : Prop := ∃ p c cs, v = .slice p l.len c ∧ ir.Lie w ok p l.len c cs ∧ Rep w ok l cs
def RepT (w : World) (ok : Nat → Prop) : List Ty → List CT → Prop
  | [], cs => cs = []
  | t :: l, cs => ∃ c r, cs = c :: r ∧ c.nm = t.nm ∧ c.a = t.at_ ∧ (∃ cs2, ir.Lie w ok c.p c.n c.c cs2 ∧ Rep w ok t.l cs2) ∧ RepT w ok l r
theorem RepT.keep {w w' : World} {ok : Nat → Prop} (hk : ∀ g, ok g → g < w.heap.size → w'.heap[g]? = w.heap[g]?) (hs : w.heap.size ≤ w'.heap.size) (hx : Kx w w') {l : List Ty} : ∀ {cs : List CT}, RepT w ok l cs → RepT w' ok l cs := by
  induction l with
  | nil => intro cs h; exact h
  | cons t l it =>
    intro cs h
    obtain ⟨c, r, h1, h2, h3, ⟨cs2, h4, h5⟩, h6⟩ := h
    exact ⟨c, r, h1, h2, h3, ⟨cs2, h4.keep hk hs, h5.keep hk hs hx⟩, it h6⟩
theorem RepT.mono {w : World} {ok ok' : Nat → Prop} (ho : ∀ g, ok g → g < w.heap.size → ok' g) {l : List Ty} : ∀ {cs : List CT}, RepT w ok l cs → RepT w ok' l cs := by
  induction l with
  | nil => intro cs h; exact h
  | cons t l it =>
    intro cs h
    obtain ⟨c, r, h1, h2, h3, ⟨cs2, h4, h5⟩, h6⟩ := h
    exact ⟨c, r, h1, h2, h3, ⟨cs2, h4.mono ho, h5.mono ho⟩, it h6⟩
theorem RepT.len {w : World} {ok : Nat → Prop} {l : List Ty} : ∀ {cs : List CT}, RepT w ok l cs → cs.length = l.length := by
  induction l with
  | nil => intro cs h; subst h; rfl
  | cons t l it =>
    intro cs h
    obtain ⟨c, r, rfl, _, _, _, h6⟩ := h
    simp [it h6]
theorem RepT.app {w : World} {ok : Nat → Prop} {c : CT} {s : Its} (hs : ∃ cs2, ir.Lie w ok c.p c.n c.c cs2 ∧ Rep w ok s cs2) {l : List Ty} : ∀ {cs : List CT}, RepT w ok l cs → RepT w ok (l ++ [⟨c.nm, c.a, s⟩]) (cs ++ [c]) := by
  induction l with
  | nil => intro cs h; subst h; exact ⟨c, [], rfl, rfl, rfl, hs, rfl⟩
  | cons t l it =>
    intro cs h
    obtain ⟨e, r, rfl, h2, h3, h4, h6⟩ := h
    exact ⟨e, r ++ [c], rfl, h2, h3, h4, it h6⟩
def IsTs (w : World) (ok : Nat → Prop) (v : Value) (l : List Ty) : Prop := ∃ p c cs, v = .slice p l.length c ∧ sr.Lie w ok p l.length c cs ∧ RepT w ok l cs
theorem IsTs.bl {w w' : World} {ok : Nat → Prop} {v : Value} {l : List Ty} (h : IsTs w ok v l) (hb : Bl w w') : IsTs w' ok v l := by
  obtain ⟨p, c, cs, h1, h2, h3⟩ := h
  exact ⟨p, c, cs, h1, h2.keep (fun g _ hg => Below.block hb g hg) hb.size, h3.keep (fun g _ hg => Below.block hb g hg) hb.size (Kx.bl hb)⟩
theorem IsL.bl {w w' : World} {ok : Nat → Prop} {v : Value} {l : Its} (h : IsL w ok v l) (hb : Bl w w') : IsL w' ok v l := by
  obtain ⟨p, c, cs, h1, h2, h3⟩ := h
  exact ⟨p, c, cs, h1, h2.keep (fun g _ hg => Below.block hb g hg) hb.size, h3.keep (fun g _ hg => Below.block hb g hg) hb.size (Kx.bl hb)⟩
end Go.Proofs.YtococaecjecjgaaGreatDoor.tm
