/- TypesOrders: for every text s the law answers true: where the document takes s for templates and finds nothing wrong with them, the order in which types.Order does a block's rules is the document's, in every struct and in all blocks within. internal/bytealg.MaxLen is whatever number the world holds. -/
import Derived.Test.YtpanodaecjlgaaaRows
import Derived.WalkKit
import Derived.ProofKit
import Derived.OpenShut
import Derived.SizedLaws
import Derived.Test.YtpanodaecjlgaaaZ33
import Derived.ShutString
namespace Go.Proofs.Ytpanodaecjlgaaa.typesOrders
open Go.ChangeShapes Go.WideShapes Go.ChangeAt Go.RowKit
open Go.ChangeMaps (open_string shut_string)
set_option linter.unusedVariables false      -- a walk need not use every 'w<i>' (that an integer argument fits its kind)

theorem own : ownKnob Try.prog.godebug = none := by kernel_rfl

theorem walk (a0 : ByteArray) (w0 : a0.size ≤ 140737488351232) (w : World) (hM : tr.Ml w) :
    Calls Try.prog 3 #[.string a0] w fun e w' => e = .returned (.bool true) ∧ Below w.heap.size w w' := by
  obtain ⟨m, h⟩ := hM
  refine (oq.orders_at a0 w ⟨m, h⟩ (by
    rcases Nat.lt_or_ge 0 w.heap.size with h1 | h1
    · exact h1
    · simp [World.cell?, Array.getElem?_eq_none h1] at h)).mono ?_
  rintro e w' ⟨h1, h2⟩
  exact ⟨h1, h2⟩

set_option maxRecDepth 100000 in
theorem lifted (os : Os) (started : os.Started) (H : Type) (enc : TypeId × Value → H) :
    ReturnsInHanded {} Try.checked os 3 .any (Rows.typesOrdersSpec.pre6 enc Try.prog Try.f3 Rows.typesOrdersRow.domain false) (Rows.typesOrdersSpec.post enc Try.prog Try.f3 false true false false) := by
  refine returnsInHanded_of_calls (C := Try.checked) own started (by kernel_rfl)
    (ChangeSpec.witness6 (enc := enc) (C := Try.checked) false ⟨#[], #[.string ByteArray.empty], []⟩ 8 (by kernel_rfl) (by kernel_rfl) (by kernel_rfl) (by kernel_rfl)) ?_
  intro w0 tape i _ hsh _ hok hpre _
  obtain ⟨_, _, _, fn', hfn', _, _, _, _, hval0⟩ := hok
  obtain rfl : fn' = Try.f3 := Option.some.inj (hfn'.symm.trans Try.func3)
  obtain ⟨⟨ds, gs, before, hw, hcnd⟩, hz⟩ := hpre
  have hW : DataW.Whole enc Try.prog Try.f3.params.toList Rows.typesOrdersSpec.vars false (w0.forCall tape i) i.args.toList ds gs before := DataW.Whole.of_heap (w' := w0.forCall tape i) (by rfl) hw
  have hsz0 := hz.weights hw
  refine Calls.mono (R := fun e W' => ∃ v, e = .returned v ∧ Rows.typesOrdersSpec.post enc Try.prog Try.f3 false true false false (w0.forCall tape i) i.args v W') ?_ (fun e W' h => by
    obtain ⟨v, rfl, h⟩ := h
    exact ChangeSpec.post_blind h)
  clear hfn' hw hz
  generalize w0.forCall tape i = W at *
  generalize w0.heap.size = base at *
  generalize i.args = args at *
  have hval : ∀ (j : Nat) t v, Try.f3.params[j]? = some t → args[j]? = some v → Value.okWide Try.prog W .any base t v := hval0
  have hW' := hW
  obtain ⟨p, q, hA0, hV, rfl, hfz, hnd⟩ := hW
  have hA : DataW.TrodAll enc Try.prog W 0 (fun _ => true) true Try.f3.params.toList args.toList ds p := hA0
  have hsz : (DataW.weightsEach Try.prog (Try.f3.params.toList ++ Rows.typesOrdersSpec.plain.varTypes Try.prog) (ds ++ gs)).all (· ≤ reachBytes) = true := hsz0
  rw [Try.params3] at hA hval hsz
  obtain ⟨v0, vs0, d0, ds0, p0, q0, hargs, rfl, rfl, h0, r0⟩ := trodAll_cons hA
  obtain ⟨rfl, rfl, rfl⟩ := trodAll_nil r0
  obtain rfl : args = #[v0] := by cases args; simp_all
  obtain ⟨rfl, rfl⟩ := trodVars_none hV
  obtain ⟨a0, rfl, rfl, rfl, w0⟩ := open_string Try.underlying9 (hval 0 9 v0 rfl rfl) h0
  have z0 : a0.size ≤ 140737488351232 := sized_string hsz (j := 0) (t := 9) rfl rfl
  clear hA0 hval0 hsz0 hsz
  simp only [List.append_nil] at hW'
  refine (walk a0 z0 W (tr.ml_of hsh)).mono fun e W' ⟨he, hg⟩ => ?_
  subst he
  exact ⟨_, rfl, _, _, _, [], [], [], hW', (trodAll_cons_mk (shut_bool Try.underlying4 _) trodAll_mk0), (trodAll_cons_mk (shut_string Try.underlying9 w0) trodAll_mk0), rfl, hg.frame _, fun h => by cases h⟩

theorem over : Rows.typesOrdersRow.holds Try.pinned (OpenSpec.ofChange Rows.typesOrdersSpec) :=
  OpenClaim.holds_of_wide 3 Try.f3 rfl rfl rfl rfl rfl rfl rfl ⟨rfl, rfl, rfl, rfl, rfl⟩ rfl rfl rfl rfl rfl (by kernel_rfl) Try.func3 (by kernel_rfl)
    (of_decide_eq_true (by kernel_rfl)) (by unfold Func.isWrapper; first | (rw [if_pos (by decide +kernel)]; kernel_rfl) | (rw [if_neg (by decide +kernel)]; exact ⟨rfl, rfl⟩))
    (fun os started H enc _ => lifted os started H enc)

end Go.Proofs.Ytpanodaecjlgaaa.typesOrders
namespace Go.Proofs.Ytpanodaecjlgaaa
/-- The given statement. -/
theorem typesOrders_holds : Rows.TypesOrdersSaid := typesOrders.over
#print axioms typesOrders_holds
end Go.Proofs.Ytpanodaecjlgaaa
