/- The fixed expression of the laws. -/
import Derived.Test.YtfngcphklfjhjaaDoorExU
import Derived.Test.YtfngcphklfjhjaaDoorLk1
import Derived.Maps.OwnSet
import Derived.StringKeys
namespace Go.Proofs.YtfngcphklfjhjaaDoor.ex
set_option linter.unusedVariables false
open Go.ChangeShapes Go.WideShapes Go.ChangeAt Go.RowKit
open mem lx
open Go.Maps

theorem lawS : Keyed Tryd.prog 9 := string_keyed Tryd.underlying9
def skey (x : List UInt8) : Lit := .string x
theorem skey_is (x : List UInt8) : WideAt.IsKeyLit (skey x) := trivial
theorem skey_inj {a b : List UInt8} (h : a ≠ b) : skey a ≠ skey b := fun e => h (by unfold skey at e; injection e)
/-- A map of the call's own that tells these numbers by texts. -/
def Om (w : World) (b : Nat) (f : List UInt8 → Option Int) (c : Nat) : Prop :=
  ∃ D : DataW Unit, w.ownsMap Tryd.prog 9 (plainElem Tryd.prog 3) b c D ∧ ∀ x, x.length ≤ 5000 → Maps.has D (skey x) = (f x).isSome ∧ D.atKey (skey x) (.lit (.int .i64 0)) = .lit (.int .i64 ((f x).getD 0))
theorem Om.step {w w' : World} {b c : Nat} {f : List UInt8 → Option Int} {row : Option Nat} (h : Om w b f c) (hg : w.grownBy w' row) (hne : some b ≠ row) : Om w' b f c := by
  obtain ⟨D, h1, h2⟩ := h
  exact ⟨D, h1.kept hg hne, h2⟩
theorem Om.made (w : World) : Om (w.alloc (.map #[] 0)) w.heap.size (fun _ => none) 0 :=
  ⟨_, World.ownsMap_made w Tryd.prog 9 _, fun x _ => ⟨rfl, rfl⟩⟩
theorem zero_int (w : World) : (zeroValue 3).run Tryd.prog w = .ok (.int .i64 0) w := by kernel_rfl
theorem Om.look {w : World} {b c : Nat} {f : List UInt8 → Option Int} (h : Om w b f c) (t : ByteArray) (ht : t.size ≤ 5000) :
    (Instr.lookup 42 (.map (some b)) (.string t) true).run Tryd.prog w = .ok (.tuple #[.int .i64 ((f t.data.toList).getD 0), .bool (f t.data.toList).isSome]) w := by
  obtain ⟨D, h1, h2⟩ := h
  obtain ⟨x, ps, hrun, hx⟩ := h1.look_ok lawS Tryd.underlying42 (zero_int w) (plainElem_int Tryd.underlying3 (a := 0) (by decide)) (WideMaps.keyOf_string_mk Tryd.underlying9 (s := t) (by unfold maxLen; omega))
  obtain ⟨h3, h4⟩ := h2 t.data.toList (by rw [Array.length_toList]; exact ht)
  have h4' : D.atKey (.string t.data.toList) (.lit (.int .i64 0)) = .lit (.int .i64 ((f t.data.toList).getD 0)) := h4
  have h3' : Maps.has D (.string t.data.toList) = (f t.data.toList).isSome := h3
  rw [h4'] at hx
  obtain ⟨a, rfl, ha, _⟩ := plainElem_int_inv Tryd.underlying3 hx
  simp only [Prod.mk.injEq, DataW.lit.injEq, Lit.int.injEq, true_and] at ha
  rw [hrun, h3', ha.1]
theorem Om.put {w : World} {b c : Nat} {f : List UInt8 → Option Int} (h : Om w b f c) (t : ByteArray) (x : Int) (ht : t.size ≤ 5000) (hx : R64 x) (hc : c ≤ 5000) :
    ∃ w', (Instr.mapUpdate 42 (.map (some b)) (.string t) (.int .i64 x)).run Tryd.prog w = .ok () w' ∧ Om w' b (fun y => if y = t.data.toList then some x else f y) (c + 1) ∧ w.grownBy w' (some b) := by
  obtain ⟨D, h1, h2⟩ := h
  obtain ⟨w', hr, ho, hg⟩ := h1.update lawS Tryd.underlying42 (by unfold maxLen; omega) (WideMaps.keyOf_string_mk Tryd.underlying9 (s := t) (by unfold maxLen; omega)) (plainElem_int Tryd.underlying3 (a := x) (WalkArith.wf_i64 (by unfold R64 at hx; omega)))
  refine ⟨w', hr, ⟨_, ho, fun y hy => ?_⟩, hg⟩
  show Maps.has (D.put (skey t.data.toList) _) (skey y) = _ ∧ (D.put (skey t.data.toList) _).atKey (skey y) _ = _
  by_cases e : y = t.data.toList
  · subst e
    rw [has_put_same h1.isMap (skey_is _), atKey_put_same h1.isMap (skey_is _)]
    simp
  · rw [has_put_other (skey_inj e), atKey_put_other (skey_inj e)]
    simp only [if_neg e]
    exact h2 y hy
theorem Om.isM {w : World} {b c : Nat} {f : List UInt8 → Option Int} (h : Om w b f c) : IsM w (.map (some b)) f := by
  refine ⟨fun w' hb t ht => ?_⟩
  have hg : w.grownBy w' none := ⟨hb.os, hb.tape, hb.output, hb.size, fun k hk _ => Below.block hb k hk⟩
  have := (h.step hg (by simp)).look (tx t) (by rw [tx_size]; omega)
  rw [show (tx t).data.toList = t from L_tx t] at this
  rw [this]
  cases f t <;> rfl
/-- Names that came in: which ones, how many. -/
structure Nm (w : World) (m : Value) (env : List UInt8 → Option Int) (n : Nat) : Prop where
  is : IsM w m env
  ln : ∀ w', Bl w w' → (Builtin.len_ #[42] 3 #[m]).run Tryd.prog w' = .ok (.int .i64 (n : Int)) w'
  rg : ∀ t k, env t = some k → R64 k
/-- All that the laws lean on. -/
structure Gd (w : World) : Prop where
  ms : Mks w
  er : errs.Laid w
  pw : Pw w
  lt : 3 < w.heap.size
theorem Gd.step {w w' : World} (h : Gd w) (hb : Bl w w') : Gd w' := ⟨h.ms.step hb, h.er.bl hb, h.pw.below hb h.lt, Nat.lt_of_lt_of_le h.lt hb.size⟩
set_option maxRecDepth 10000 in
theorem fixed_at (w : World) (h : Gd w) : Calls Tryd.prog 18 #[] w fun e w' => e = .returned (.bool true) ∧ Bl w w' := by
  obtain ⟨f1, f2, f3⟩ := fix_wf
  obtain ⟨x', hx, hp⟩ := again f1 f2 f3
  rw [fix_txt] at hp
  have cP := Parse_at ⟨#[50, 32, 43, 32, 51, 32, 42, 32, 40, 97, 32, 45, 32, 49, 41]⟩ w (by decide) h.ms h.er
  have hL : L ⟨#[50, 32, 43, 32, 51, 32, 42, 32, 40, 97, 32, 45, 32, 49, 41]⟩ = [50, 32, 43, 32, 51, 32, 42, 32, 40, 97, 32, 45, 32, 49, 41] := rfl
  go_enter Tryd.func18, Tryd.ntmps18
  go_wp2_with fail
  refine cP.mono ?_
  rintro e w1 ⟨hb1, hans⟩
  rw [hL, hp] at hans
  obtain ⟨v, rfl, hv⟩ := hans
  obtain ⟨vb, rfl, _⟩ := hv.ptr
  have hmm : ∀ w, (Instr.makeMap 42 none).run Tryd.prog w = .ok (.map (some w.heap.size)) (w.alloc (.map #[] 0)) := fun w => by kernel_rfl
  obtain ⟨w2, hr2, ho2, hg2⟩ := (Om.made w1).put ⟨#[97]⟩ 5 (by decide) (by unfold R64; omega) (by omega)
  have hb2 : Bl w1 w2 := bl_grown ((Bl.refl w1).alloc _) hg2 (fun k hk => by injection hk with hk; omega)
  have hmM := ho2.isM
  have hG2 := h.step (hb1.trans hb2)
  have hokb := hx.okb f1.okb
  have cE := Eval_at _ (.map (some w1.heap.size)) x' (.pointer (some ⟨vb, 0, none⟩)) w2 (hv.keep (Kx.bl hb2)) hokb hmM
  have hev : ev (fun y => if y = (ByteArray.mk #[97]).data.toList then some 5 else none) x' = .ok 14 := by
    rcases hx.ev (env := fun y => if y = (ByteArray.mk #[97]).data.toList then some 5 else none) with ⟨n, e1, e2⟩ | ⟨p, q, e1, e2⟩
    · rw [e2]; rw [fix_ev _ (by rfl)] at e1; rw [e1]
    · rw [fix_ev _ (by rfl)] at e1; cases e1
  have htx := hx.txt
  have hlen : (txt x').length ≤ 100000000 := by rw [htx.1, fix_txt]; decide
  have cX := fun wx (hb : Bl w2 wx) => Text_at x' (.pointer (some ⟨vb, 0, none⟩)) wx (hv.keep (Kx.bl (hb2.trans hb))) (hG2.step hb).pw (hG2.step hb).lt (hx.nw f2).fit hlen
  rw [htx.1, fix_txt] at cX
  clear hmM ho2 hg2
  go_wp2_with fail
  refine cE.mono ?_
  rintro e w3 ⟨hb3, hans3⟩
  rw [hev] at hans3
  dsimp only at hans3
  subst hans3
  go_wp2_with fail
  refine (cX w3 hb3).mono ?_
  rintro e w4 ⟨rfl, hb4⟩
  go_wp2
  go_ret
  exact ⟨ret_bool (by rw [tl_tx]; rfl), ((hb1.trans hb2).trans hb3).trans hb4⟩
end Go.Proofs.YtfngcphklfjhjaaDoor.ex
