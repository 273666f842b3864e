/- Of any three texts of up to 300 bytes together, where one alone has changed the old one it is that one's, where both have made the same of it it is so once, and whose comes first is nothing where both can be: DiffAlone answers true at every three texts. -/
import Derived.Test.YtoiiphkcpdphbaaRows
import Derived.WalkKit
import Derived.ProofKit
import Derived.OpenShut
import Derived.SizedLaws
import Derived.Test.YtoiiphkcpdphbaaDfK
import Derived.ShutString
namespace Go.Proofs.Ytoiiphkcpdphbaa.diffAlone
open Go.ChangeShapes Go.WideShapes Go.ChangeAt Go.RowKit
open Go.ChangeMaps (open_string shut_string)
set_option linter.unusedVariables false      -- a walk need not use every 'w<i>' (that an integer argument fits its kind)

theorem own : ownKnob Try.prog.godebug = none := by kernel_rfl

open mem df
theorem st_self (a : List UInt8) : ∀ e ∈ st a a, e.w = 1 := by
  induction a with
  | nil => intro e he; rw [st] at he; cases he
  | cons x a ih =>
    intro e he
    rw [st, if_pos rfl] at he
    rcases List.mem_cons.1 he with rfl | he
    · rfl
    · exact ih e he
theorem grp_keep (l : List Ed) (h : ∀ e ∈ l, e.w = 1) : ∀ e ∈ grp l, e.w = 1 := by
  induction l with
  | nil => intro e he; cases he
  | cons x l ih =>
    have ih' := ih (fun e he => h e (List.mem_cons_of_mem _ he))
    have hx := h x (List.mem_cons_self ..)
    intro e he
    rw [grp_cons] at he
    cases hg : grp l with
    | nil => rw [hg] at he; simp at he; rw [he]; exact hx
    | cons f k =>
      rw [hg] at he ih'
      dsimp only at he
      split at he
      · rcases List.mem_cons.1 he with rfl | he
        · exact hx
        · exact ih' e (List.mem_cons_of_mem _ he)
      · rcases List.mem_cons.1 he with rfl | he
        · exact hx
        · exact ih' e he
theorem cgo_keep (l : List Ed) (h : ∀ e ∈ l, e.w = 1) (at' : Int) : cgo none at' l = [] := by
  induction l generalizing at' with
  | nil => rfl
  | cons x l ih =>
    rw [cgo, if_pos (h x (List.mem_cons_self ..)), ih (fun e he => h e (List.mem_cons_of_mem _ he))]
    rfl
theorem chg_self (a : List UInt8) : chg (edits a a) = [] := cgo_keep _ (grp_keep _ (st_self a)) 0
theorem both_left (o a : List UInt8) : both o a o = (a, true) := by
  unfold both
  rw [chg_self, jn_nil]
  dsimp only
  rw [(chg_is _ _ _ (rn_edits o a)).2]
theorem both_right (o a : List UInt8) : both o o a = (a, true) := by
  unfold both
  rw [chg_self, nil_jn]
  dsimp only
  rw [(chg_is _ _ _ (rn_edits o a)).2]
theorem both_same (o a : List UInt8) : both o a a = (a, true) := by
  unfold both
  rw [jn_self]
  dsimp only
  rw [(chg_is _ _ _ (rn_edits o a)).2]
theorem chg_fw (o a : List UInt8) : Fw (chg (edits o a)) := by
  rcases (chg_is _ _ _ (rn_edits o a)).1 with h | h
  · rw [h]; intro c hc; cases hc
  · exact sep_fw h
theorem both_comm (o a b : List UInt8) : (both o a b).2 = (both o b a).2 ∧ ((both o a b).2 = true → (both o a b).1 = (both o b a).1) := by
  unfold both
  rw [jn_comm _ _ (chg_fw o a) (chg_fw o b)]
  cases jn (chg (edits o b)) (chg (edits o a)) with
  | none => exact ⟨rfl, fun h => by cases h⟩
  | some l => exact ⟨rfl, fun _ => rfl⟩
set_option maxHeartbeats 1000000 in
set_option maxRecDepth 10000 in
theorem walk (a0 : ByteArray) (a1 : ByteArray) (a2 : ByteArray) (w0 : a0.size ≤ 140737488351232) (w1 : a1.size ≤ 140737488351232) (w2 : a2.size ≤ 140737488351232) (w : World) :
    Calls Try.prog 5 #[.string a0, .string a1, .string a2] w fun e w' => e = .returned (.bool true) ∧ Below w.heap.size w w' := by
  obtain ⟨Q, hQ⟩ : ∃ Q : Nat, Q = 140737488351232 := ⟨_, rfl⟩
  have hs : ∀ s ∈ [a0, a1, a2], s.size ≤ Q := by
    intro s hs
    simp only [List.mem_cons, List.not_mem_nil, or_false] at hs
    rcases hs with rfl | rfl | rfl <;> omega
  have cN := fun (Z : Nat) (w : World) h => near_at Q (by omega) [a0, a1, a2] Z w 9 (by simp) hs h
  clear hs hQ
  by_cases ht : tot [a0, a1, a2] ≤ 300
  · rw [decide_eq_true ht] at cN
    have hsz : a0.size + a1.size + a2.size ≤ 300 := by simp only [tot] at ht; omega
    clear ht
    have c1 := fun w => Both_at a0 a1 a0 w (by omega) (by omega)
    have c2 := fun w => Both_at a0 a0 a1 w (by omega) (by omega)
    have c3 := fun w => Both_at a0 a1 a1 w (by omega) (by omega)
    have c4 := fun w => Both_at a0 a1 a2 w (by omega) (by omega)
    have c5 := fun w => Both_at a0 a2 a1 w (by omega) (by omega)
    rw [both_left, tx_L] at c1
    rw [both_right, tx_L] at c2
    rw [both_same, tx_L] at c3
    obtain ⟨hc1, hc2⟩ := both_comm (L a0) (L a1) (L a2)
    rw [← hc1] at c5
    obtain ⟨p, hp⟩ : ∃ p, tx (both (L a0) (L a1) (L a2)).1 = p := ⟨_, rfl⟩
    obtain ⟨q, hq⟩ : ∃ q, tx (both (L a0) (L a2) (L a1)).1 = q := ⟨_, rfl⟩
    rw [hp] at c4
    rw [hq] at c5
    have hpq : (both (L a0) (L a1) (L a2)).2 = true → p = q := fun h => by rw [← hp, ← hq, hc2 h]
    generalize (both (L a0) (L a1) (L a2)).2 = ok at c4 c5 hpq
    clear hc1 hc2 hp hq
    have HPQ : Hid (ok = true → p = q) := hpq
    clear hpq
    go_enter Try.func5, Try.ntmps5
    go_wp2_with fail
    refine (differed_at _).mono ?_
    rintro e v1 ⟨rfl, hb1⟩
    go_wp2_with fail
    refine (cN v1.heap.size _ (heap_alloc_new v1 _)).mono ?_
    rintro e v2 ⟨rfl, rfl⟩
    go_wp2_with fail
    refine (c1 _).mono ?_
    rintro e v3 ⟨rfl, hb3⟩
    go_wp2_with fail
    refine (c2 _).mono ?_
    rintro e v4 ⟨rfl, hb4⟩
    go_wp2_with fail
    refine (c3 _).mono ?_
    rintro e v5 ⟨rfl, hb5⟩
    go_wp2_with fail
    refine (c4 _).mono ?_
    rintro e v6 ⟨rfl, hb6⟩
    go_wp2_with fail
    refine (c5 _).mono ?_
    rintro e v7 ⟨rfl, hb7⟩
    have HB : Hid (Bl w v7) := (((((hb1.trans ((Bl.refl _).alloc _)).trans hb3).trans hb4).trans hb5).trans hb6).trans hb7
    clear hb1 hb3 hb4 hb5 hb6 hb7
    cases ok with
    | false =>
      go_wp2
      go_ret
      exact ⟨rfl, HB.out⟩
    | true =>
      have hpq := HPQ.out rfl
      subst hpq
      go_wp2
      go_ret
      exact ⟨rfl, HB.out⟩
  · rw [decide_eq_false ht] at cN
    go_enter Try.func5, Try.ntmps5
    go_wp2_with fail
    refine (differed_at _).mono ?_
    rintro e v1 ⟨rfl, hb1⟩
    go_wp2_with fail
    refine (cN v1.heap.size _ (heap_alloc_new v1 _)).mono ?_
    rintro e v2 ⟨rfl, rfl⟩
    go_wp2
    go_ret
    exact ⟨rfl, hb1.trans ((Bl.refl _).alloc _)⟩

set_option maxRecDepth 100000 in
theorem lifted (os : Os) (started : os.Started) (H : Type) (enc : TypeId × Value → H) :
    ReturnsInHanded {} Try.checked os 5 .any (Rows.diffAloneSpec.pre6 enc Try.prog Try.f5 Rows.diffAloneRow.domain false) (Rows.diffAloneSpec.post enc Try.prog Try.f5 false true false false) := by
  refine returnsInHanded_of_change_sized (C := Try.checked) own started (by kernel_rfl) Try.func5
    (ChangeSpec.witness6 (enc := enc) (C := Try.checked) false ⟨#[], #[.string ByteArray.empty, .string ByteArray.empty, .string ByteArray.empty], []⟩ 8 (by kernel_rfl) (by kernel_rfl) (by kernel_rfl) (by kernel_rfl)) ?_
  intro W base args ds gs before hval0 hW hcnd hsz0 _
  have hval : ∀ (j : Nat) t v, Try.f5.params[j]? = some t → args[j]? = some v → Value.okWide Try.prog W .any base t v := hval0
  have hW' := hW
  obtain ⟨p, q, hA0, hV, rfl, hfz, hnd⟩ := hW
  have hA : DataW.TrodAll enc Try.prog W 0 (fun _ => true) true Try.f5.params.toList args.toList ds p := hA0
  have hsz : (DataW.weightsEach Try.prog (Try.f5.params.toList ++ Rows.diffAloneSpec.plain.varTypes Try.prog) (ds ++ gs)).all (· ≤ reachBytes) = true := hsz0
  rw [Try.params5] at hA hval hsz
  obtain ⟨v0, vs0, d0, ds0, p0, q0, hargs, rfl, rfl, h0, r0⟩ := trodAll_cons hA
  obtain ⟨v1, vs1, d1, ds1, p1, q1, rfl, rfl, rfl, h1, r1⟩ := trodAll_cons r0
  obtain ⟨v2, vs2, d2, ds2, p2, q2, rfl, rfl, rfl, h2, r2⟩ := trodAll_cons r1
  obtain ⟨rfl, rfl, rfl⟩ := trodAll_nil r2
  obtain rfl : args = #[v0, v1, v2] := by cases args; simp_all
  obtain ⟨rfl, rfl⟩ := trodVars_none hV
  obtain ⟨a0, rfl, rfl, rfl, w0⟩ := open_string Try.underlying9 (hval 0 9 v0 rfl rfl) h0
  have z0 : a0.size ≤ 140737488351232 := sized_string hsz (j := 0) (t := 9) rfl rfl
  obtain ⟨a1, rfl, rfl, rfl, w1⟩ := open_string Try.underlying9 (hval 1 9 v1 rfl rfl) h1
  have z1 : a1.size ≤ 140737488351232 := sized_string hsz (j := 1) (t := 9) rfl rfl
  obtain ⟨a2, rfl, rfl, rfl, w2⟩ := open_string Try.underlying9 (hval 2 9 v2 rfl rfl) h2
  have z2 : a2.size ≤ 140737488351232 := sized_string hsz (j := 2) (t := 9) rfl rfl
  clear hA0 hval0 hsz0 hsz
  simp only [List.append_nil] at hW'
  refine (walk a0 a1 a2 z0 z1 z2 W).mono fun e W' ⟨he, hg⟩ => ?_
  subst he
  exact ⟨_, rfl, _, _, _, [], [], [], hW', (trodAll_cons_mk (shut_bool Try.underlying4 _) trodAll_mk0), (trodAll_cons_mk (shut_string Try.underlying9 w0) (trodAll_cons_mk (shut_string Try.underlying9 w1) (trodAll_cons_mk (shut_string Try.underlying9 w2) trodAll_mk0))), rfl, hg.frame _, fun h => by cases h⟩

theorem over : Rows.diffAloneRow.holds Try.pinned (OpenSpec.ofChange Rows.diffAloneSpec) :=
  OpenClaim.holds_of_wide 5 Try.f5 rfl rfl rfl rfl rfl rfl rfl ⟨rfl, rfl, rfl, rfl, rfl⟩ rfl rfl rfl rfl rfl (by kernel_rfl) Try.func5 (by kernel_rfl)
    (of_decide_eq_true (by kernel_rfl)) (by unfold Func.isWrapper; first | (rw [if_pos (by decide +kernel)]; kernel_rfl) | (rw [if_neg (by decide +kernel)]; exact ⟨rfl, rfl⟩))
    (fun os started H enc _ => lifted os started H enc)

end Go.Proofs.Ytoiiphkcpdphbaa.diffAlone
namespace Go.Proofs.Ytoiiphkcpdphbaa
/-- The given statement. -/
theorem diffAlone_holds : Rows.DiffAloneSaid := diffAlone.over
#print axioms diffAlone_holds
end Go.Proofs.Ytoiiphkcpdphbaa
