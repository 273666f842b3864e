/- Names that come in: a map from texts to numbers, opened. -/
import Derived.Test.YtfngcphklfjhjaaDoorExV
import Derived.WideKeyArgs2
import Derived.MapViews
import Derived.Laws.IdiomMaps
namespace Go.Proofs.YtfngcphklfjhjaaDoor.ex
set_option linter.unusedVariables false
open Go.ChangeShapes Go.WideShapes Go.ChangeAt Go.RowKit
open mem lx
open Go.Maps
open Go.WideElems (Fit rd rg pl rd_val elemAt elemAt_int)

theorem un_map : Tryd.prog.underlying 42 = some (.map (Tryd.prog.mapKeyOf 42) (Tryd.prog.mapElemOf 42)) := by kernel_rfl
/-- The number that a map tells of a text. -/
def tells (D : DataW Unit) (x : List UInt8) : Option Int :=
  match Maps.has D (skey x), D.atKey (skey x) (.lit (.int .i64 0)) with
  | true, .lit (.int .i64 a) => some a
  | _, _ => none
theorem not_has {D : DataW Unit} {k : Lit} {z : DataW Unit} (h : Maps.has D k = false) : D.atKey k z = z := by
  cases D <;> first | rfl | skip
  unfold Maps.has at h
  simp only [DataW.atKey]
  split
  · rename_i p hp
    have := List.find?_some hp
    have h2 := List.mem_of_find?_eq_some hp
    rw [List.any_eq_false] at h
    exact absurd this (h p h2)
  · rfl
theorem Om.of {w : World} {b c : Nat} {D : DataW Unit} (h : w.ownsMap Tryd.prog 9 (plainElem Tryd.prog 3) b c D) : Om w b (tells D) c ∧ ∀ x, x.length ≤ 5000 → ∀ k, tells D x = some k → R64 k := by
  have key : ∀ x : List UInt8, x.length ≤ 5000 → ∃ a, D.atKey (skey x) (.lit (.int .i64 0)) = .lit (.int .i64 a) ∧ (Lit.int .i64 a).wf = true := fun x hx => by
    obtain ⟨a, _, h2, h3⟩ := h.lookup_int (w := w) lawS Tryd.underlying42 Tryd.underlying3 (zero_int w) (WideMaps.keyOf_string_mk Tryd.underlying9 (s := ⟨x.toArray⟩) (by show x.toArray.size ≤ maxLen; unfold maxLen; simp; omega))
    exact ⟨a, by simpa [skey] using h2, h3⟩
  refine ⟨⟨D, h, fun x hx => ?_⟩, fun x hx k hk => ?_⟩
  · obtain ⟨a, h1, h2⟩ := key x hx
    unfold tells
    rw [h1]
    cases hh : Maps.has D (skey x) with
    | true => exact ⟨rfl, rfl⟩
    | false =>
      rw [not_has hh] at h1
      exact ⟨rfl, by rw [← h1]; rfl⟩
  · obtain ⟨a, h1, h2⟩ := key x hx
    unfold tells at hk
    rw [h1] at hk
    cases hh : Maps.has D (skey x) with
    | true =>
      rw [hh] at hk
      obtain rfl := Option.some.inj hk
      unfold R64
      simp [Lit.wf, show IntKind.i64.min = -9223372036854775808 from rfl, show IntKind.i64.max = 9223372036854775807 from rfl] at h2
      omega
    | false => rw [hh] at hk; cases hk
theorem map_open {H : Type} {enc : TypeId × Value → H} {W : World} {a1 : Option Nat} {d : DataW H} {p : List MemPlace} (h : DataW.Trod enc Tryd.prog W 0 (fun _ => true) true 42 (.map a1) d p) :
    a1 = none ∨ ∃ b es clock, a1 = some b ∧ W.heap[b]? = some (.map es clock) ∧ W.ownsMap Tryd.prog 9 (plainElem (H := Unit) Tryd.prog 3) b es.size (.map ((es.toList.map (rg Tryd.prog 9 (plainElem Tryd.prog 3))).foldr DataW.insert [])) := by
  obtain ⟨fuel, hf⟩ := h
  rcases WideElems.open_map Tryd.underlying42 hf with ⟨hcs, hx⟩ | ⟨bm, es, clock, m, rfl, hcs, hb, _, F, hx⟩
  · left
    simpa [Value.cells] using hcs
  · right
    simp [Value.cells] at hcs
    refine ⟨bm, es, clock, hcs, hb, es, clock, hb, ⟨F.size, F.stamped, fun x hx => ?_⟩, Nat.le_refl _, rfl⟩
    obtain ⟨y, hy⟩ := F.reads x hx
    have hkey := WideElems.rd_key hy
    obtain ⟨z, hz, hd⟩ := rd_val hy
    obtain ⟨a, ha, rfl, hw⟩ := elemAt_int Tryd.underlying3 hz
    refine ⟨(y.1, .lit (.int .i64 a)), ?_⟩
    unfold rd
    rw [hkey, ha, plainElem_int Tryd.underlying3 hw]
    rfl
theorem nm_open {H : Type} {enc : TypeId × Value → H} {W : World} {a1 : Option Nat} {d : DataW H} {p : List MemPlace} (h : DataW.Trod enc Tryd.prog W 0 (fun _ => true) true 42 (.map a1) d p) :
    ∃ env n, Nm W (.map a1) env n := by
  rcases map_open h with rfl | ⟨b, es, clock, rfl, hb, ho⟩
  · exact ⟨fun _ => none, 0, ⟨fun w' _ t _ => by kernel_rfl⟩, fun w' _ => run_len_nilMap (w := w') _ _ un_map, fun t k h => by cases h⟩
  · obtain ⟨h1, h2⟩ := Om.of ho
    generalize (DataW.map ((es.toList.map (rg Tryd.prog 9 (plainElem Tryd.prog 3))).foldr DataW.insert []) : DataW Unit) = D at h1 h2
    refine ⟨fun x => if x.length ≤ 5000 then tells D x else none, es.size, ⟨fun w' hbl t ht => ?_⟩, fun w' hbl => ?_, fun t k hk => ?_⟩
    · rw [h1.isM.lk w' hbl t ht]
      simp only [show t.length ≤ 5000 by omega, if_true]
    · exact run_len_map (w := w') _ _ b es clock un_map (by rw [Below.block hbl b ((Array.getElem?_eq_some_iff.1 hb).1), hb])
    · split at hk
      · rename_i hl; exact h2 t hl k hk
      · cases hk
end Go.Proofs.YtfngcphklfjhjaaDoor.ex
