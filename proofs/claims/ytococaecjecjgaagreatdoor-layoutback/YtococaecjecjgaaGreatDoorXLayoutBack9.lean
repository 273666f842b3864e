/- Texts laid together: ExU, ExV, LaidX, TmP, TmQ. -/
import Derived.Test.YtococaecjecjgaaGreatDoorXLayoutBack8
import Derived.Maps.OwnSet
import Derived.StringKeys
import Derived.Test.YtococaecjecjgaaGreatDoorXLayoutBack3
import Derived.Test.YtococaecjecjgaaGreatDoorXLayoutBack4
import Derived.Test.YtococaecjecjgaaGreatDoorXLayoutBack7
/- Expressions, written, are read: what comes of it. -/
namespace Go.Proofs.YtococaecjecjgaaGreatDoor.ex
set_option linter.unusedVariables false
open Go.RowKit
open mem lx

theorem top_one {x : Ex} (h : Okb x) : ¬ top x < 1 := by
  cases x with
  | num a n => show ¬ 4 < 1; omega
  | nam a t => show ¬ 4 < 1; omega
  | bin a o l r => have := h.1; show ¬ bd o < 1; omega
theorem sd_one {x : Ex} (h : Okb x) : sd x 1 = dp x := by unfold sd; rw [if_neg (top_one h)]
theorem sk_one {x : Ex} (h : Okb x) : sk Lib.itoa x 1 = tk Lib.itoa x := by unfold sk; rw [if_neg (top_one h)]
theorem prs_of {l : List UInt8} {ts : List Tk} {q : Res} {f : Nat} (h1 : lx l 0 = (ts, none)) (h2 : row nb l.length f 1 0 ts = some q) : prs l = whole q := by
  refine prs_is (ts := ts) (by rw [h1]) (by rw [h1]) ?_
  cases h : row nb l.length (10 * ts.length + 10) 1 0 ts with
  | none => exact absurd h ((some_all _).1 1 0 ts (by omega) (by omega))
  | some q' => rw [row_one h h2]
/-- WHAT IS WRITTEN IS READ. -/
theorem again {x : Ex} (hw : Wf (nb := nb) Lib.itoa x) (hn : Nw x) (hd : dp x ≤ 8) : ∃ x', Sm x x' ∧ prs (txt x) = .ok x' := by
  obtain ⟨us, u1, u2⟩ := cut_txt hn hw.okb [] 0 (fun c hc => by simp at hc)
  rw [List.append_nil] at u2
  rw [show (lx [] (0 + (txt x).length)) = ([], none) from rfl] at u2
  dsimp only at u2
  rw [List.append_nil] at u2
  obtain ⟨x', hx, hr⟩ := reads (en := (txt x).length) x hw 3 1 0 us [] (by omega) (by omega) (by rw [sd_one hw.okb]; omega) (by rw [sk_one hw.okb]; exact u1) (by show 0 ≤ 1; omega)
  obtain ⟨f, hf⟩ := hr 1 _ (lp_stop 0 1 0 x' [] (by show 0 < 1; omega))
  rw [List.append_nil] at hf
  exact ⟨x', hx, prs_of u2 hf⟩
/-- Numbers of 64 bits. -/
def R64 (n : Int) : Prop := -9223372036854775808 ≤ n ∧ n < 9223372036854775808
theorem Nw.fit {x : Ex} (h : Nw x) : Fit x := by
  induction x with
  | num a n => obtain ⟨h1, h2⟩ := h; show _ ∧ _; omega
  | nam a t => trivial
  | bin a o l r il ir => exact ⟨il h.1, ir h.2⟩
theorem itoa_small (k : Nat) (h : k < 10) : Lib.itoa (k : Int) = [UInt8.ofNat (48 + k)] := by
  rw [itoa_pos _ (by omega), Int.toNat_natCast, Lib.decDigits, dif_pos h]
end Go.Proofs.YtococaecjecjgaaGreatDoor.ex
/- Maps of texts of the call's own; what the laws lean on. -/
namespace Go.Proofs.YtococaecjecjgaaGreatDoor.ex
set_option linter.unusedVariables false
open Go.ChangeShapes Go.WideShapes Go.ChangeAt Go.RowKit
open mem lx
open Go.Maps

theorem lawS : Keyed Tryz.prog 9 := string_keyed Tryz.underlying9
def skey (x : List UInt8) : Lit := .string x
theorem skey_is (x : List UInt8) : WideAt.IsKeyLit (skey x) := trivial
theorem skey_inj {a b : List UInt8} (h : a ≠ b) : skey a ≠ skey b := fun e => h (by unfold skey at e; injection e)
/-- A map of the call's own that tells these numbers by texts. -/
def Om (w : World) (b : Nat) (f : List UInt8 → Option Int) (c : Nat) : Prop :=
  ∃ D : DataW Unit, w.ownsMap Tryz.prog 9 (plainElem Tryz.prog 3) b c D ∧ ∀ x, x.length ≤ 5000 → Maps.has D (skey x) = (f x).isSome ∧ D.atKey (skey x) (.lit (.int .i64 0)) = .lit (.int .i64 ((f x).getD 0))
theorem Om.step {w w' : World} {b c : Nat} {f : List UInt8 → Option Int} {row : Option Nat} (h : Om w b f c) (hg : w.grownBy w' row) (hne : some b ≠ row) : Om w' b f c := by
  obtain ⟨D, h1, h2⟩ := h
  exact ⟨D, h1.kept hg hne, h2⟩
theorem Om.made (w : World) : Om (w.alloc (.map #[] 0)) w.heap.size (fun _ => none) 0 :=
  ⟨_, World.ownsMap_made w Tryz.prog 9 _, fun x _ => ⟨rfl, rfl⟩⟩
theorem zero_int (w : World) : (zeroValue 3).run Tryz.prog w = .ok (.int .i64 0) w := by kernel_rfl
theorem Om.look {w : World} {b c : Nat} {f : List UInt8 → Option Int} (h : Om w b f c) (t : ByteArray) (ht : t.size ≤ 5000) :
    (Instr.lookup 100 (.map (some b)) (.string t) true).run Tryz.prog w = .ok (.tuple #[.int .i64 ((f t.data.toList).getD 0), .bool (f t.data.toList).isSome]) w := by
  obtain ⟨D, h1, h2⟩ := h
  obtain ⟨x, ps, hrun, hx⟩ := h1.look_ok lawS Tryz.underlying100 (zero_int w) (plainElem_int Tryz.underlying3 (a := 0) (by decide)) (WideMaps.keyOf_string_mk Tryz.underlying9 (s := t) (by unfold maxLen; omega))
  obtain ⟨h3, h4⟩ := h2 t.data.toList (by rw [Array.length_toList]; exact ht)
  have h4' : D.atKey (.string t.data.toList) (.lit (.int .i64 0)) = .lit (.int .i64 ((f t.data.toList).getD 0)) := h4
  have h3' : Maps.has D (.string t.data.toList) = (f t.data.toList).isSome := h3
  rw [h4'] at hx
  obtain ⟨a, rfl, ha, _⟩ := plainElem_int_inv Tryz.underlying3 hx
  simp only [Prod.mk.injEq, DataW.lit.injEq, Lit.int.injEq, true_and] at ha
  rw [hrun, h3', ha.1]
/-- Without 'ok'. -/
theorem Om.get {w : World} {b c : Nat} {f : List UInt8 → Option Int} (h : Om w b f c) (t : ByteArray) (ht : t.size ≤ 5000) :
    (Instr.lookup 100 (.map (some b)) (.string t) false).run Tryz.prog w = .ok (.int .i64 ((f t.data.toList).getD 0)) w := by
  obtain ⟨D, h1, h2⟩ := h
  obtain ⟨x, hrun, hx, _⟩ := h1.lookup_int lawS Tryz.underlying100 Tryz.underlying3 (zero_int w) (WideMaps.keyOf_string_mk Tryz.underlying9 (s := t) (by unfold maxLen; omega))
  obtain ⟨h3, h4⟩ := h2 t.data.toList (by rw [Array.length_toList]; exact ht)
  have h4' : D.atKey (.string t.data.toList) (.lit (.int .i64 0)) = .lit (.int .i64 ((f t.data.toList).getD 0)) := h4
  rw [h4'] at hx
  simp only [DataW.lit.injEq, Lit.int.injEq, true_and] at hx
  rw [hrun, hx]
theorem Om.put {w : World} {b c : Nat} {f : List UInt8 → Option Int} (h : Om w b f c) (t : ByteArray) (x : Int) (ht : t.size ≤ 5000) (hx : R64 x) (hc : c ≤ 5000) :
    ∃ w', (Instr.mapUpdate 100 (.map (some b)) (.string t) (.int .i64 x)).run Tryz.prog w = .ok () w' ∧ Om w' b (fun y => if y = t.data.toList then some x else f y) (c + 1) ∧ w.grownBy w' (some b) := by
  obtain ⟨D, h1, h2⟩ := h
  obtain ⟨w', hr, ho, hg⟩ := h1.update lawS Tryz.underlying100 (by unfold maxLen; omega) (WideMaps.keyOf_string_mk Tryz.underlying9 (s := t) (by unfold maxLen; omega)) (plainElem_int Tryz.underlying3 (a := x) (WalkArith.wf_i64 (by unfold R64 at hx; omega)))
  refine ⟨w', hr, ⟨_, ho, fun y hy => ?_⟩, hg⟩
  show Maps.has (D.put (skey t.data.toList) _) (skey y) = _ ∧ (D.put (skey t.data.toList) _).atKey (skey y) _ = _
  by_cases e : y = t.data.toList
  · subst e
    rw [has_put_same h1.isMap (skey_is _), atKey_put_same h1.isMap (skey_is _)]
    simp
  · rw [has_put_other (skey_inj e), atKey_put_other (skey_inj e)]
    simp only [if_neg e]
    exact h2 y hy
theorem Om.isM {w : World} {b c : Nat} {f : List UInt8 → Option Int} (h : Om w b f c) : IsM w (.map (some b)) f := by
  refine ⟨fun w' hb t ht => ?_⟩
  have hg : w.grownBy w' none := ⟨hb.os, hb.tape, hb.output, hb.size, fun k hk _ => Below.block hb k hk⟩
  have := (h.step hg (by simp)).look (tx t) (by rw [tx_size]; omega)
  rw [show (tx t).data.toList = t from L_tx t] at this
  rw [this]
  cases f t <;> rfl
/-- All that the laws lean on. -/
structure Gd (w : World) : Prop where
  ms : Mks w
  er : errs.Laid w
  pw : Pw w
  lt : 5 < w.heap.size
theorem Gd.step {w w' : World} (h : Gd w) (hb : Bl w w') : Gd w' := ⟨h.ms.step hb, h.er.bl hb, h.pw.below hb h.lt, Nat.lt_of_lt_of_le h.lt hb.size⟩
end Go.Proofs.YtococaecjecjgaaGreatDoor.ex
/- What the row's condition on the tables, on the marks and on errors.errorType gives a walk; and a world that meets it. -/
namespace Go.Proofs.YtococaecjecjgaaGreatDoor.laidx
open Go.ChangeShapes Go.WideShapes Go.RowKit

/-- The list that the row lays. -/
def list : List (String × DataW Unit) := [("math/bits.deBruijn32tab", Rows.laid_math_bits_deBruijn32tab), ("math/bits.deBruijn64tab", Rows.laid_math_bits_deBruijn64tab), ("internal/strconv.uint64pow10", Rows.laid_internal_strconv_uint64pow10), ("errors.errorType", Rows.laid_errors_errorType), ("escritoire/lex.marks", Rows.laid_escritoire_lex_marks)]
def plain : List (String × DataW Unit) := [("math/bits.deBruijn32tab", Rows.laid_math_bits_deBruijn32tab), ("math/bits.deBruijn64tab", Rows.laid_math_bits_deBruijn64tab), ("internal/strconv.uint64pow10", Rows.laid_internal_strconv_uint64pow10), ("escritoire/lex.marks", Rows.laid_escritoire_lex_marks)]
set_option maxRecDepth 100000 in
theorem some_of : (list.filter fun x => x.2.handleName?.isSome) = laying.list := by kernel_rfl
set_option maxRecDepth 100000 in
theorem none_of : (list.filter fun x => x.2.handleName?.isNone) = plain := by kernel_rfl
theorem pow_is : (Rows.laid_internal_strconv_uint64pow10 : DataW Unit) = Lib.tabData .u64 Lib.pow10Tab := by kernel_rfl
theorem gt : (Tryz.prog.globals[5]?).map (·.type) = some 287 := by kernel_rfl
theorem pw_of {W : World} (h : Lib.VarReads Tryz.prog W "internal/strconv.uint64pow10" Rows.laid_internal_strconv_uint64pow10) : ex.Pw W ∧ 5 < W.heap.size := by
  rw [pow_is] at h
  obtain ⟨g, t, cs, fuel, p, hg, hty, hvar, hd⟩ := h
  obtain rfl := Option.some.inj (ex.gnP.symm.trans hg)
  obtain rfl := Option.some.inj (gt.symm.trans hty)
  have hP : ex.Pw W := by
    unfold ex.Pw Lib.TabIs
    rw [hvar, ← Lib.cells_of_tab Tryz.underlying287 Tryz.underlying102 (by kernel_rfl) (by kernel_rfl) hd]
  refine ⟨hP, ?_⟩
  have := Lib.TabIs.cell hP ex.gnP 0 (by decide)
  unfold World.cell? at this
  rcases Nat.lt_or_ge 5 W.heap.size with h | h
  · exact h
  · simp [Array.getElem?_eq_none h] at this
theorem of_laid {W : World} (h : laidMetH Tryz.prog list W) : ex.Gd W := by
  unfold laidMetH at h
  rw [some_of] at h
  have h' : laidMet Tryz.prog (list.filter fun x => x.2.handleName?.isNone) W ∧ handlesMet Tryz.prog laying.list W := h
  have h1 := h'.1
  rw [none_of] at h1
  obtain ⟨hp, hl⟩ := pw_of (Lib.laidMet.reads h1 (.tail _ (.tail _ (.head _))))
  exact ⟨laidm.marks_of_reads (Lib.laidMet.reads h1 (.tail _ (.tail _ (.tail _ (.head _))))), laying.handle_of_laid (show laidMetH Tryz.prog laying.list W from ⟨⟨[], rfl, List.nodup_nil, fun _ _ h => by cases h⟩, h'.2⟩), hp, hl⟩
theorem names_of : (plain.filter fun x => ["math/bits.deBruijn32tab", "math/bits.deBruijn64tab", "internal/strconv.uint64pow10", "escritoire/lex.marks"].contains x.1) = plain := by kernel_rfl
theorem names_not : (plain.filter fun x => !["math/bits.deBruijn32tab", "math/bits.deBruijn64tab", "internal/strconv.uint64pow10", "escritoire/lex.marks"].contains x.1) = [] := by kernel_rfl
set_option maxRecDepth 100000 in
theorem world_met (os : Os) (args : Array Value) : laidMetH Tryz.prog list ((World.layVars Tryz.prog (laying.layCell (World.holding Tryz.prog os ⟨#[], #[], []⟩)) plain).forCall (fun _ _ => 0) ⟨#[], args, []⟩).memory := by
  refine laidMetH_of_parts ?_ ?_
  · rw [none_of]
    refine laidMet_layVars (w0 := laying.layCell (World.holding Tryz.prog os ⟨#[], #[], []⟩)) ["math/bits.deBruijn32tab", "math/bits.deBruijn64tab", "internal/strconv.uint64pow10", "escritoire/lex.marks"] [] ?_ ?_ ?_ ?_
    · rw [names_of]; simp [World.memory, World.forCall, Input.heap]
    · rw [names_of]; kernel_rfl
    · rw [names_of]; kernel_rfl
    · rw [names_not]; exact LaidIn.none
  · rw [some_of]; kernel_rfl
end Go.Proofs.YtococaecjecjgaaGreatDoor.laidx
/- Templates: how tokens are read (pure). -/
namespace Go.Proofs.YtococaecjecjgaaGreatDoor.tm
set_option linter.unusedVariables false
open lx ex

/-- What a part is, but for the parts in it. -/
structure D where
  kd : Nat
  at_ : Nat
  nm : List UInt8
  ty : List UInt8
  wd : Nat
  od : Nat
  sg : Bool
  mn : Bool
  ct : Option Ex
  ru : Nat
  f1 : List UInt8
  l1 : List UInt8
deriving Inhabited
def D0 : D := ⟨0, 0, [], [], 0, 0, false, false, none, 0, [], []⟩
/-- Parts, one behind the other. -/
inductive Its where
  | nil
  | cons (d : D) (sub tl : Its)
deriving Inhabited
def Its.len : Its → Nat
  | .nil => 0
  | .cons _ _ tl => tl.len + 1
/-- A struct. -/
structure Ty where
  nm : List UInt8
  at_ : Nat
  l : Its
deriving Inhabited
def wStruct : List UInt8 := [115, 116, 114, 117, 99, 116]
def wBytes : List UInt8 := [98, 121, 116, 101, 115]
def wWhen : List UInt8 := [119, 104, 101, 110]
def wSize : List UInt8 := [115, 105, 122, 101]
def wCount : List UInt8 := [99, 111, 117, 110, 116]
def wCheck : List UInt8 := [99, 104, 101, 99, 107]
/-- The words for numbers. -/
def numW : List (List UInt8 × Nat × Nat × Bool) :=
  [([117, 56], 1, 0, false), ([105, 56], 1, 0, true),
   ([117, 49, 54, 108, 101], 2, 0, false), ([117, 49, 54, 98, 101], 2, 1, false), ([105, 49, 54, 108, 101], 2, 0, true), ([105, 49, 54, 98, 101], 2, 1, true),
   ([117, 51, 50, 108, 101], 4, 0, false), ([117, 51, 50, 98, 101], 4, 1, false), ([105, 51, 50, 108, 101], 4, 0, true), ([105, 51, 50, 98, 101], 4, 1, true),
   ([105, 54, 52, 108, 101], 8, 0, true), ([105, 54, 52, 98, 101], 8, 1, true)]
def numOf (t : List UInt8) : Option (Nat × Nat × Bool) := (numW.find? (fun p => p.1 == t)).map (·.2)
def resv (t : List UInt8) : Bool := [wStruct, wBytes, wWhen, wSize, wCount, wCheck].contains t || (numOf t).isSome
abbrev Rs (α : Type) := Except (Int × Nat) (α × List Tk)
section
variable (nb : List UInt8 → Int × Int) (en : Nat)
def want (m : List UInt8) (ts : List Tk) : Except (Int × Nat) (List Tk) := if (hd en ts).t = m then .ok ts.tail else .error (3, (hd en ts).a)
def name (ts : List Tk) : Rs (List UInt8) :=
  if resv (hd en ts).t = true ∨ isN (hd en ts).t = false then .error (3, (hd en ts).a)
  else if 12 < (hd en ts).t.length then .error (4, (hd en ts).a)
  else .ok ((hd en ts).t, ts.tail)
/-- An expression, behind which that must stand; up to it. -/
def rx (m : List UInt8) (ts : List Tk) : Rs Ex :=
  match row nb en (10 * ts.length + 10) 1 0 ts with
  | some (.ok (x, r)) => if (hd en r).t = m then .ok (x, r) else .error (3, (hd en r).a)
  | some (.error e) => .error e
  | none => .error (0, 0)
/-- In brackets. -/
def many (ts : List Tk) : Rs Ex :=
  match want en [91] ts with
  | .error e => .error e
  | .ok r => match rx nb en [93] r with
    | .error e => .error e
    | .ok (x, r) => .ok (x, r.tail)
def ruleOf (t : List UInt8) : Nat := if t = wSize then 1 else if t = wCount then 2 else if t = wCheck then 3 else 0
def rule (d : D) (ts : List Tk) : Rs D :=
  if ruleOf (hd en ts).t = 0 then .error (3, (hd en ts).a)
  else match name en ts.tail with
    | .error e => .error e
    | .ok (a, r) =>
      if ruleOf (hd en ts).t = 3 then
        if (hd en r).t = [59] then .ok ({ d with ru := 3, f1 := a, l1 := a }, r)
        else match name en r with
          | .error e => .error e
          | .ok (b, r) => .ok ({ d with ru := 3, f1 := a, l1 := b }, r)
      else .ok ({ d with ru := ruleOf (hd en ts).t, f1 := a }, r)
/-- What a part begins with. -/
def kind (ts : List Tk) : Rs D :=
  match numOf (hd en ts).t with
  | some (w, o, s) => .ok ({ D0 with kd := 1, wd := w, od := o, sg := s }, ts.tail)
  | none => match name en ts with
    | .error e => .error e
    | .ok (t, r) => .ok ({ D0 with kd := 3, ty := t }, r)
/-- How many, or what it hangs on. -/
def mark (d : D) (ts : List Tk) : Rs D :=
  if (hd en ts).t = [91] then match many nb en ts with
    | .error e => .error e
    | .ok (x, r) => .ok ({ d with mn := true, ct := some x }, r)
  else if (hd en ts).t = [61] ∧ d.kd = 1 then rule en d ts.tail
  else .ok (d, ts)
def part (ts : List Tk) : Rs D :=
  match kind en ts with
  | .error e => .error e
  | .ok (d, r) => match name en r with
    | .error e => .error e
    | .ok (t, r) => match mark nb en { d with nm := t } r with
      | .error e => .error e
      | .ok (d, r) => match want en [59] r with
        | .error e => .error e
        | .ok r => .ok (d, r)
def byts (ts : List Tk) : Rs D :=
  match name en ts with
  | .error e => .error e
  | .ok (t, r) => match many nb en r with
    | .error e => .error e
    | .ok (x, r) => match want en [59] r with
      | .error e => .error e
      | .ok r => .ok ({ D0 with kd := 2, nm := t, ct := some x }, r)
variable (inner : List Tk → Rs Its)
def item (ts : List Tk) : Rs (D × Its) :=
  if (hd en ts).t = wWhen then
    match rx nb en [123] ts.tail with
    | .error e => .error e
    | .ok (x, r) => match inner r with
      | .error e => .error e
      | .ok (l, r) => .ok (({ D0 with kd := 4, at_ := (hd en ts).a, ct := some x }, l), r)
  else if (hd en ts).t = wBytes then
    match byts nb en ts.tail with
    | .error e => .error e
    | .ok (d, r) => .ok (({ d with at_ := (hd en ts).a }, .nil), r)
  else match part nb en ts with
    | .error e => .error e
    | .ok (d, r) => .ok (({ d with at_ := (hd en ts).a }, .nil), r)
/-- Parts, up to the bracket: so many more may come. -/
def loop : Nat → List Tk → Rs Its
  | 0, ts => if (hd en ts).t = [125] then .ok (.nil, ts.tail) else .error (4, (hd en ts).a)
  | n + 1, ts =>
    if (hd en ts).t = [125] then .ok (.nil, ts.tail)
    else match item nb en inner ts with
      | .error e => .error e
      | .ok ((d, s), r) => match loop n r with
        | .error e => .error e
        | .ok (l, r) => .ok (.cons d s l, r)
/-- Parts in their brackets: so many brackets more may be opened. -/
def blk : Nat → List Tk → Rs Its
  | 0, ts => if (hd en ts).t = [123] then .error (4, (hd en ts).a) else .error (3, (hd en ts).a)
  | k + 1, ts => if (hd en ts).t = [123] then loop nb en (blk k) 16 ts.tail else .error (3, (hd en ts).a)
/-- Structs: so many more may come. -/
def typs : Nat → List Tk → Except (Int × Nat) (List Ty)
  | _, [] => .ok []
  | 0, t :: _ => if t.t = wStruct then .error (4, t.a) else .error (3, t.a)
  | n + 1, t :: r =>
    if t.t = wStruct then
      match name en r with
      | .error e => .error e
      | .ok (m, r') => match blk nb en 8 r' with
        | .error e => .error e
        | .ok (l, r'') => match typs n r'' with
          | .error e => .error e
          | .ok q => .ok (⟨m, (hd en r).a, l⟩ :: q)
    else .error (3, t.a)
end
end Go.Proofs.YtococaecjecjgaaGreatDoor.tm
/- Templates: read with other names, at other places, with more behind them (pure). -/
namespace Go.Proofs.YtococaecjecjgaaGreatDoor.tm
set_option linter.unusedVariables false
open lx ex

/-- What stands for a token. -/
def Gd (ρ : List UInt8 → List UInt8) (t : List UInt8) : Prop :=
  (isN t = false ∨ resv t = true → ρ t = t) ∧ (isN t = true → resv t = false → isN (ρ t) = true ∧ resv (ρ t) = false ∧ (t.length ≤ 12 → (ρ t).length ≤ 12))
inductive Rx (ρ : List UInt8 → List UInt8) : Ex → Ex → Prop
  | num (a b : Nat) (k : Int) : Rx ρ (.num a k) (.num b k)
  | nam (a b : Nat) (t : List UInt8) : Rx ρ (.nam a t) (.nam b (ρ t))
  | bin (a b : Nat) (o : List UInt8) (l l' r r' : Ex) : Rx ρ l l' → Rx ρ r r' → Rx ρ (.bin a o l r) (.bin b o l' r')
inductive RO (ρ : List UInt8 → List UInt8) : Option Ex → Option Ex → Prop
  | none : RO ρ none none
  | some {x y : Ex} : Rx ρ x y → RO ρ (some x) (some y)
structure RD (ρ : List UInt8 → List UInt8) (d d' : D) : Prop where
  kd : d'.kd = d.kd
  nm : d'.nm = ρ d.nm
  ty : d'.ty = ρ d.ty
  wd : d'.wd = d.wd
  od : d'.od = d.od
  sg : d'.sg = d.sg
  mn : d'.mn = d.mn
  ct : RO ρ d.ct d'.ct
  ru : d'.ru = d.ru
  f1 : d'.f1 = ρ d.f1
  l1 : d'.l1 = ρ d.l1
inductive RI (ρ : List UInt8 → List UInt8) : Its → Its → Prop
  | nil : RI ρ .nil .nil
  | cons {d d' : D} {s s' t t' : Its} : RD ρ d d' → RI ρ s s' → RI ρ t t' → RI ρ (.cons d s t) (.cons d' s' t')
inductive RT (ρ : List UInt8 → List UInt8) : List Ty → List Ty → Prop
  | nil : RT ρ [] []
  | cons {t t' : Ty} {l l' : List Ty} : t'.nm = ρ t.nm → RI ρ t.l t'.l → RT ρ l l' → RT ρ (t :: l) (t' :: l')
theorem RT.len {ρ : List UInt8 → List UInt8} {l l' : List Ty} (h : RT ρ l l') : l'.length = l.length := by
  induction h with
  | nil => rfl
  | cons _ _ _ ih => simp [ih]
/-- Words that are no names. -/
def Sp (m : List UInt8) : Prop := m ≠ [] ∧ (isN m = false ∨ resv m = true)
theorem bd_name {t : List UInt8} (h : isN t = true) : bd t = 0 := by
  have key : ∀ o : List UInt8, isN o = true → ¬ (o = [61, 61] ∨ o = [33, 61] ∨ o = [60] ∨ o = [62]) ∧ ¬ (o = [43] ∨ o = [45] ∨ o = [124]) ∧ ¬ (o = [42] ∨ o = [38]) := by
    intro o ho
    refine ⟨?_, ?_, ?_⟩ <;> intro hc
    · rcases hc with rfl | rfl | rfl | rfl <;> revert ho <;> decide
    · rcases hc with rfl | rfl | rfl <;> revert ho <;> decide
    · rcases hc with rfl | rfl <;> revert ho <;> decide
  obtain ⟨h1, h2, h3⟩ := key t h
  unfold bd
  rw [if_neg h1, if_neg h2, if_neg h3]
section
variable {ρ : List UInt8 → List UInt8} {nb : List UInt8 → Int × Int} {en en' : Nat}
theorem Gd.cls {t : List UInt8} (h : Gd ρ t) : (isN t = false ∧ ρ t = t) ∨ (isN t = true ∧ isN (ρ t) = true ∧ (t.length ≤ 12 → (ρ t).length ≤ 12)) := by
  cases hn : isN t with
  | false => exact Or.inl ⟨rfl, h.1 (Or.inl hn)⟩
  | true =>
    refine Or.inr ⟨rfl, ?_⟩
    cases hr : resv t with
    | true => rw [h.1 (Or.inr hr)]; exact ⟨hn, fun h => h⟩
    | false => exact ⟨(h.2 hn hr).1, (h.2 hn hr).2.2⟩
theorem Gd.bd {t : List UInt8} (h : Gd ρ t) : bd (ρ t) = bd t := by
  rcases h.cls with ⟨_, h2⟩ | ⟨h1, h2, _⟩
  · rw [h2]
  · rw [bd_name h1, bd_name h2]
theorem Gd.sp {t m : List UInt8} (h : Gd ρ t) (hm : Sp m) : (ρ t = m) ↔ t = m := by
  constructor
  · intro e
    by_cases hc : isN t = false ∨ resv t = true
    · rw [h.1 hc] at e; exact e
    · have h1 : isN t = true := by
        cases hn : isN t with
        | true => rfl
        | false => exact absurd (Or.inl hn) hc
      have h2 : resv t = false := by
        cases hr : resv t with
        | false => rfl
        | true => exact absurd (Or.inr hr) hc
      obtain ⟨g1, g2, _⟩ := h.2 h1 h2
      rw [e] at g1 g2
      rcases hm.2 with k | k
      · rw [k] at g1; cases g1
      · rw [k] at g2; cases g2
  · intro e
    have := h.1 (by rw [e]; exact hm.2)
    rw [this]; exact e
theorem Gd.resv {t : List UInt8} (h : Gd ρ t) : resv (ρ t) = resv t ∧ isN (ρ t) = isN t := by
  by_cases hc : isN t = false ∨ tm.resv t = true
  · rw [h.1 hc]; exact ⟨rfl, rfl⟩
  · have h1 : isN t = true := by
      cases hn : isN t with
      | true => rfl
      | false => exact absurd (Or.inl hn) hc
    have h2 : tm.resv t = false := by
      cases hr : tm.resv t with
      | false => rfl
      | true => exact absurd (Or.inr hr) hc
    obtain ⟨g1, g2, _⟩ := h.2 h1 h2
    exact ⟨by rw [g2, h2], by rw [g1, h1]⟩
theorem rx_is {m : List UInt8} {ts : List Tk} {x : Ex} {r : List Tk} (h : rx nb en m ts = .ok (x, r)) : row nb en (10 * ts.length + 10) 1 0 ts = some (.ok (x, r)) ∧ (hd en r).t = m := by
  unfold rx at h
  split at h
  · rename_i x' r' hr
    split at h
    · rename_i hm
      injection h with h
      injection h with h1 h2
      subst h1 h2
      exact ⟨hr, hm⟩
    · cases h
  · cases h
  · cases h
theorem rx_of {m : List UInt8} {ts : List Tk} {x : Ex} {r : List Tk} {f : Nat} (h : row nb en f 1 0 ts = some (.ok (x, r))) (hm : (hd en r).t = m) : rx nb en m ts = .ok (x, r) := by
  unfold rx
  cases hh : row nb en (10 * ts.length + 10) 1 0 ts with
  | none => exact absurd hh ((some_all _).1 1 0 ts (by omega) (by omega))
  | some q =>
    have := row_one hh h
    subst this
    dsimp only
    rw [if_pos hm]
theorem numOf_resv {t : List UInt8} (h : numOf t ≠ none) : resv t = true := by
  unfold resv
  have : (numOf t).isSome = true := by
    cases hn : numOf t with
    | none => exact absurd hn h
    | some _ => rfl
  rw [this, Bool.or_true]
theorem Gd.num {t : List UInt8} (h : Gd ρ t) : numOf (ρ t) = numOf t := by
  by_cases hr : tm.resv t = true
  · rw [h.1 (Or.inr hr)]
  · have h1 : numOf t = none := by
      cases hn : numOf t with
      | none => rfl
      | some _ => exact absurd (numOf_resv (by rw [hn]; simp)) hr
    have h2 : tm.resv (ρ t) = false := by rw [h.resv.1]; simpa using hr
    rw [h1]
    cases hn : numOf (ρ t) with
    | none => rfl
    | some _ => have := numOf_resv (t := ρ t) (by rw [hn]; simp); rw [h2] at this; cases this
theorem RD.at {d d' : D} (h : RD ρ d d') (a b : Nat) : RD ρ { d with at_ := a } { d' with at_ := b } := ⟨h.kd, h.nm, h.ty, h.wd, h.od, h.sg, h.mn, h.ct, h.ru, h.f1, h.l1⟩
end
end Go.Proofs.YtococaecjecjgaaGreatDoor.tm
