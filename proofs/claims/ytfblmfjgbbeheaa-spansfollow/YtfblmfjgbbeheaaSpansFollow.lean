/- SpansFollow: what stands at a place that is not taken out stands, behind an edit, where the place is then; and places stay in their order: for every input. -/
import Derived.Test.YtfblmfjgbbeheaaRows
import Derived.WalkKit
import Derived.ProofKit
import Derived.OpenShut
import Derived.SizedLaws
import Derived.Test.YtfblmfjgbbeheaaSp7
import Derived.ShutString
namespace Go.Proofs.Ytfblmfjgbbeheaa.spansFollow
open Go.ChangeShapes Go.WideShapes Go.ChangeAt Go.RowKit
open Go.ChangeMaps (open_string shut_string)
set_option linter.unusedVariables false      -- a walk need not use every 'w<i>' (that an integer argument fits its kind)

theorem own : ownKnob Try.prog.godebug = none := by kernel_rfl

open mem rows span sp
/-- Where places come to. -/
theorem mv_le (P A O I S : Nat) (hA : A ≤ S) (hO : O ≤ S - A) (hP : P ≤ S) : ∃ m : Nat, mv (P : Int) A O I = (m : Int) ∧ m ≤ A + I + (S - (A + O)) ∧ (P < A → m = P) ∧ (A + O ≤ P → m = P - O + I) := by
  refine ⟨(mv (P : Int) A O I).toNat, ?_, ?_, ?_, ?_⟩ <;> unfold mv <;> split <;> (try split) <;> omega
theorem mv_mono (P Q A O I : Nat) (h : P ≤ Q) : mv (P : Int) A O I ≤ mv (Q : Int) A O I := by
  unfold mv
  (repeat' split) <;> omega
theorem byte_ahead (a b : ByteArray) (A O P : Nat) (h1 : A ≤ a.size) (hP : P < A) (T : ByteArray) (hT : a.extract 0 A ++ b ++ a.extract (A + O) a.size = T) (m : Nat) (hm : m = P) (h : m < T.size) (h' : P < a.size) : ((T[m].toNat : Int) == (a[P].toNat : Int)) = true := by
  subst hm hT
  rw [beq_iff_eq]
  rw [ByteArray.getElem_append_left (by rw [ByteArray.size_append, ByteArray.size_extract]; omega), ByteArray.getElem_append_left (by rw [ByteArray.size_extract]; omega), ByteArray.getElem_extract]
  simp
theorem byte_behind (a b : ByteArray) (A O P : Nat) (h1 : A + O ≤ a.size) (hP : A + O ≤ P) (T : ByteArray) (hT : a.extract 0 A ++ b ++ a.extract (A + O) a.size = T) (m : Nat) (hm : m = P - O + b.size) (h : m < T.size) (h' : P < a.size) : ((T[m].toNat : Int) == (a[P].toNat : Int)) = true := by
  subst hm hT
  rw [beq_iff_eq]
  have hs : (a.extract 0 A ++ b).size = A + b.size := by rw [ByteArray.size_append, ByteArray.size_extract]; omega
  rw [ByteArray.getElem_append_right (by rw [hs]; omega), ByteArray.getElem_extract]
  have e : A + O + (P - O + b.size - (a.extract 0 A ++ b).size) = P := by rw [hs]; omega
  simp only [e]
set_option maxHeartbeats 4000000 in
set_option maxRecDepth 100000 in
theorem walk (a0 : ByteArray) (a1 : Int) (a2 : Int) (a3 : ByteArray) (a4 : Int) (a5 : Int) (w0 : a0.size ≤ 140737488351232) (w1 : (Lit.int .i64 a1).wf = true) (w2 : (Lit.int .i64 a2).wf = true) (w3 : a3.size ≤ 140737488351232) (w4 : (Lit.int .i64 a4).wf = true) (w5 : (Lit.int .i64 a5).wf = true) (w : World) :
    Calls Try.prog 7 #[.string a0, .int .i64 a1, .int .i64 a2, .string a3, .int .i64 a4, .int .i64 a5] w fun e w' => e = .returned (.bool true) ∧ Below w.heap.size w w' := by
  clear w0 w1 w2 w3 w4 w5
  by_cases hs : a0.size ≤ 200 ∧ a3.size ≤ 100
  · obtain ⟨hs0, hs3⟩ := hs
    obtain ⟨A, hA⟩ : ∃ A, A = pk a1 (a0.size + 1) := ⟨_, rfl⟩
    have hA1 : A ≤ a0.size := by have := pk_lt a1 (a0.size + 1) (by omega); omega
    have c1 := fun w => pick_at a1 (a0.size + 1) w (by omega) (by omega)
    rw [← hA, show ((a0.size + 1 : Nat) : Int) = (a0.size : Int) + 1 by omega] at c1
    obtain ⟨O, hO⟩ : ∃ O, O = pk a2 (a0.size - A + 1) := ⟨_, rfl⟩
    have hO1 : O ≤ a0.size - A := by have := pk_lt a2 (a0.size - A + 1) (by omega); omega
    have c2 := fun w => pick_at a2 (a0.size - A + 1) w (by omega) (by omega)
    rw [← hO, show ((a0.size - A + 1 : Nat) : Int) = (a0.size : Int) - (A : Int) + 1 by omega] at c2
    obtain ⟨P, hP⟩ : ∃ P, P = pk a4 (a0.size + 1) := ⟨_, rfl⟩
    have hP1 : P ≤ a0.size := by have := pk_lt a4 (a0.size + 1) (by omega); omega
    have c4 := fun w => pick_at a4 (a0.size + 1) w (by omega) (by omega)
    rw [← hP, show ((a0.size + 1 : Nat) : Int) = (a0.size : Int) + 1 by omega] at c4
    obtain ⟨Q, hQ⟩ : ∃ Q, Q = pk a5 (a0.size + 1) := ⟨_, rfl⟩
    have hQ1 : Q ≤ a0.size := by have := pk_lt a5 (a0.size + 1) (by omega); omega
    have c5 := fun w => pick_at a5 (a0.size + 1) w (by omega) (by omega)
    rw [← hQ, show ((a0.size + 1 : Nat) : Int) = (a0.size : Int) + 1 by omega] at c5
    clear hA hO hP hQ
    obtain ⟨ma, hma, hma1, hma2, hma3⟩ := mv_le P A O a3.size a0.size hA1 hO1 hP1
    obtain ⟨mb, hmb, hmb1, hmb2, hmb3⟩ := mv_le Q A O a3.size a0.size hA1 hO1 hQ1
    clear hmb2 hmb3
    have HAB : Hid (P ≤ Q → ma ≤ mb) := fun h => by have := mv_mono P Q A O a3.size h; omega
    have HM2 : Hid (P < A → ma = P) := hma2
    have HM3 : Hid (A + O ≤ P → ma = P - O + a3.size) := hma3
    clear hma2 hma3
    have d1 := fun w => Moved_at P A O a3.size w (by unfold sm; omega) (by unfold sm; omega) (by unfold sm; omega) (by unfold sm; omega)
    have d2 := fun w => Moved_at Q A O a3.size w (by unfold sm; omega) (by unfold sm; omega) (by unfold sm; omega) (by unfold sm; omega)
    rw [hma] at d1
    rw [hmb] at d2
    clear hma hmb
    have hAz : (A : Int) ≤ (a0.size : Int) := by omega
    have hAO : (A : Int) + (O : Int) ≤ (a0.size : Int) := by omega
    go_enter Try.func7, Try.ntmps7
    go_wp2_with (first
      | (go_at_call 27; refine (spanned_at _).mono ?_; rintro e v1 ⟨rfl, hg1⟩)
      | (go_at_call_of 30 (Value.int IntKind.i64 a1); refine (c1 _).mono ?_; rintro e v2 ⟨rfl, rfl⟩)
      | (go_at_call_of 30 (Value.int IntKind.i64 a2); refine (c2 _).mono ?_; rintro e v3 ⟨rfl, rfl⟩)
      | (go_at_call_of 30 (Value.int IntKind.i64 a4); refine (c4 _).mono ?_; rintro e v4 ⟨rfl, rfl⟩)
      | (go_at_call_of 30 (Value.int IntKind.i64 a5); refine (c5 _).mono ?_; rintro e v5 ⟨rfl, rfl⟩)
      | (go_at_call_of 25 (Value.int IntKind.i64 (P : Int)); refine (d1 _).mono ?_; rintro e v6 ⟨rfl, rfl⟩)
      | (go_at_call_of 25 (Value.int IntKind.i64 (Q : Int)); refine (d2 _).mono ?_; rintro e v7 ⟨rfl, rfl⟩))
    go_quiet (fail)
    generalize hT : a0.extract 0 A ++ a3 ++ a0.extract (A + O) a0.size = T
    have hTs : T.size = A + a3.size + (a0.size - (A + O)) := by rw [← hT, ByteArray.size_append, ByteArray.size_append, ByteArray.size_extract, ByteArray.size_extract]; omega
    rw [← hTs] at hma1 hmb1
    have HT : Hid (a0.extract 0 A ++ a3 ++ a0.extract (A + O) a0.size = T) := hT
    have HTs : Hid (T.size = A + a3.size + (a0.size - (A + O))) := hTs
    have hTl : T.size ≤ 400 := by omega
    have HO1 : Hid (O ≤ a0.size - A) := hO1
    have HP1 : Hid (P ≤ a0.size) := hP1
    clear hT hTs c1 c2 c4 c5 hO1 hA1 hP1 hQ1
    by_cases hPQ : P ≤ Q
    · have hPQz : (P : Int) ≤ (Q : Int) := by omega
      have hab := HAB.out hPQ
      have habz : (ma : Int) ≤ (mb : Int) := by omega
      have hmaz : (ma : Int) ≤ (T.size : Int) := by omega
      go_wp2_with (first
        | (go_at_call_of 25 (Value.int IntKind.i64 (P : Int)); refine (d1 _).mono ?_; rintro e v6 ⟨rfl, rfl⟩)
        | (go_at_call_of 25 (Value.int IntKind.i64 (Q : Int)); refine (d2 _).mono ?_; rintro e v7 ⟨rfl, rfl⟩))
      have hcase : P = a0.size ∨ (¬ P = a0.size ∧ A ≤ P ∧ P < A + O) ∨ (¬ P = a0.size ∧ P < A) ∨ (¬ P = a0.size ∧ A + O ≤ P) := by omega
      rcases hcase with h | ⟨h1, h2, h3⟩ | ⟨h1, h2⟩ | ⟨h1, h2⟩
      · have hz : (P : Int) = (a0.size : Int) := by omega
        go_quiet (fail)
        go_wp2
        go_ret
        exact ⟨rfl, (hg1.drewN _).drewN _⟩
      · have hz1 : ¬ (P : Int) = (a0.size : Int) := by omega
        have hz2 : (A : Int) ≤ (P : Int) := by omega
        have hz3 : (P : Int) < (A : Int) + (O : Int) := by omega
        have hw : IntKind.i64.wrap ((A : Int) + (O : Int)) = (A : Int) + (O : Int) := by rw [IntKind.wrap_i64]; have := HO1.out; omega
        have hb : ((P : Int) == (a0.size : Int)) = false := by rw [beq_eq_false_iff_ne]; omega
        go_quiet (fail)
        go_wp2
        go_ret
        exact ⟨rfl, (hg1.drewN _).drewN _⟩
      · have hz1 : ¬ (P : Int) = (a0.size : Int) := by omega
        have hz2 : ¬ ((A : Int) ≤ (P : Int)) := by omega
        have HMP : Hid (ma = P) := HM2.out h2
        have hb : ((P : Int) == (a0.size : Int)) = false := by rw [beq_eq_false_iff_ne]; omega
        have hPz : (P : Int) < (a0.size : Int) := by have := HP1.out; omega
        have hPn : P < a0.size := by omega
        have hz4 : (ma : Int) < (T.size : Int) := by have := HTs.out; have := HMP.out; omega
        have hz5 : ma < T.size := by omega
        have HBY : Hid (((T[ma].toNat : Int) == (a0[P].toNat : Int)) = true) := byte_ahead a0 a3 A O P (by omega) h2 T HT.out ma HMP.out hz5 hPn
        go_quiet (fail)
        go_wp2
        go_ret
        exact ⟨ret_bool HBY.out, hg1.drewN _⟩
      · have hz1 : ¬ (P : Int) = (a0.size : Int) := by omega
        have hz2 : (A : Int) ≤ (P : Int) := by omega
        have hz3 : ¬ ((P : Int) < (A : Int) + (O : Int)) := by omega
        have hw : IntKind.i64.wrap ((A : Int) + (O : Int)) = (A : Int) + (O : Int) := by rw [IntKind.wrap_i64]; have := HO1.out; omega
        have HMP : Hid (ma = P - O + a3.size) := HM3.out h2
        have hb : ((P : Int) == (a0.size : Int)) = false := by rw [beq_eq_false_iff_ne]; omega
        have hPz : (P : Int) < (a0.size : Int) := by have := HP1.out; omega
        have hPn : P < a0.size := by omega
        have hz4 : (ma : Int) < (T.size : Int) := by have := HTs.out; have := HMP.out; omega
        have hz5 : ma < T.size := by omega
        have HBY : Hid (((T[ma].toNat : Int) == (a0[P].toNat : Int)) = true) := byte_behind a0 a3 A O P (by omega) h2 T HT.out ma HMP.out hz5 hPn
        go_quiet (fail)
        go_wp2
        go_ret
        exact ⟨ret_bool HBY.out, hg1.drewN _⟩
    · have hPQz : ¬ ((P : Int) ≤ (Q : Int)) := by omega
      have hmaz : (ma : Int) ≤ (T.size : Int) := by omega
      go_wp2_with (first
        | (go_at_call_of 25 (Value.int IntKind.i64 (P : Int)); refine (d1 _).mono ?_; rintro e v6 ⟨rfl, rfl⟩)
        | (go_at_call_of 25 (Value.int IntKind.i64 (Q : Int)); refine (d2 _).mono ?_; rintro e v7 ⟨rfl, rfl⟩))
      have hcase : P = a0.size ∨ (¬ P = a0.size ∧ A ≤ P ∧ P < A + O) ∨ (¬ P = a0.size ∧ P < A) ∨ (¬ P = a0.size ∧ A + O ≤ P) := by omega
      rcases hcase with h | ⟨h1, h2, h3⟩ | ⟨h1, h2⟩ | ⟨h1, h2⟩
      · have hz : (P : Int) = (a0.size : Int) := by omega
        go_quiet (fail)
        go_wp2
        go_ret
        exact ⟨rfl, (hg1.drewN _).drewN _⟩
      · have hz1 : ¬ (P : Int) = (a0.size : Int) := by omega
        have hz2 : (A : Int) ≤ (P : Int) := by omega
        have hz3 : (P : Int) < (A : Int) + (O : Int) := by omega
        have hw : IntKind.i64.wrap ((A : Int) + (O : Int)) = (A : Int) + (O : Int) := by rw [IntKind.wrap_i64]; have := HO1.out; omega
        have hb : ((P : Int) == (a0.size : Int)) = false := by rw [beq_eq_false_iff_ne]; omega
        go_quiet (fail)
        go_wp2
        go_ret
        exact ⟨rfl, (hg1.drewN _).drewN _⟩
      · have hz1 : ¬ (P : Int) = (a0.size : Int) := by omega
        have hz2 : ¬ ((A : Int) ≤ (P : Int)) := by omega
        have HMP : Hid (ma = P) := HM2.out h2
        have hb : ((P : Int) == (a0.size : Int)) = false := by rw [beq_eq_false_iff_ne]; omega
        have hPz : (P : Int) < (a0.size : Int) := by have := HP1.out; omega
        have hPn : P < a0.size := by omega
        have hz4 : (ma : Int) < (T.size : Int) := by have := HTs.out; have := HMP.out; omega
        have hz5 : ma < T.size := by omega
        have HBY : Hid (((T[ma].toNat : Int) == (a0[P].toNat : Int)) = true) := byte_ahead a0 a3 A O P (by omega) h2 T HT.out ma HMP.out hz5 hPn
        go_quiet (fail)
        go_wp2
        go_ret
        exact ⟨ret_bool HBY.out, hg1.drewN _⟩
      · have hz1 : ¬ (P : Int) = (a0.size : Int) := by omega
        have hz2 : (A : Int) ≤ (P : Int) := by omega
        have hz3 : ¬ ((P : Int) < (A : Int) + (O : Int)) := by omega
        have hw : IntKind.i64.wrap ((A : Int) + (O : Int)) = (A : Int) + (O : Int) := by rw [IntKind.wrap_i64]; have := HO1.out; omega
        have HMP : Hid (ma = P - O + a3.size) := HM3.out h2
        have hb : ((P : Int) == (a0.size : Int)) = false := by rw [beq_eq_false_iff_ne]; omega
        have hPz : (P : Int) < (a0.size : Int) := by have := HP1.out; omega
        have hPn : P < a0.size := by omega
        have hz4 : (ma : Int) < (T.size : Int) := by have := HTs.out; have := HMP.out; omega
        have hz5 : ma < T.size := by omega
        have HBY : Hid (((T[ma].toNat : Int) == (a0[P].toNat : Int)) = true) := byte_behind a0 a3 A O P (by omega) h2 T HT.out ma HMP.out hz5 hPn
        go_quiet (fail)
        go_wp2
        go_ret
        exact ⟨ret_bool HBY.out, hg1.drewN _⟩
  · by_cases h0 : a0.size ≤ 200
    · have h3 : ¬ a3.size ≤ 100 := fun h => hs ⟨h0, h⟩
      have h3z : (100 : Int) < (a3.size : Int) := by omega
      have h0z : ¬ ((200 : Int) < (a0.size : Int)) := by omega
      clear hs h0 h3
      go_enter Try.func7, Try.ntmps7
      go_wp2_with (go_at_call 27; refine (spanned_at _).mono ?_; rintro e v1 ⟨rfl, hg1⟩)
      go_ret
      exact ⟨rfl, hg1⟩
    · have h0z : (200 : Int) < (a0.size : Int) := by omega
      clear hs h0
      go_enter Try.func7, Try.ntmps7
      go_wp2_with (go_at_call 27; refine (spanned_at _).mono ?_; rintro e v1 ⟨rfl, hg1⟩)
      go_ret
      exact ⟨rfl, hg1⟩

set_option maxRecDepth 100000 in
theorem lifted (os : Os) (started : os.Started) (H : Type) (enc : TypeId × Value → H) :
    ReturnsInHanded {} Try.checked os 7 .any (Rows.spansFollowSpec.pre6 enc Try.prog Try.f7 Rows.spansFollowRow.domain false) (Rows.spansFollowSpec.post enc Try.prog Try.f7 false true false false) := by
  refine returnsInHanded_of_change_sized (C := Try.checked) own started (by kernel_rfl) Try.func7
    (ChangeSpec.witness6 (enc := enc) (C := Try.checked) false ⟨#[], #[.string ByteArray.empty, .int .i64 0, .int .i64 0, .string ByteArray.empty, .int .i64 0, .int .i64 0], []⟩ 8 (by kernel_rfl) (by kernel_rfl) (by kernel_rfl) (by kernel_rfl)) ?_
  intro W base args ds gs before hval0 hW hcnd hsz0 _
  have hval : ∀ (j : Nat) t v, Try.f7.params[j]? = some t → args[j]? = some v → Value.okWide Try.prog W .any base t v := hval0
  have hW' := hW
  obtain ⟨p, q, hA0, hV, rfl, hfz, hnd⟩ := hW
  have hA : DataW.TrodAll enc Try.prog W 0 (fun _ => true) true Try.f7.params.toList args.toList ds p := hA0
  have hsz : (DataW.weightsEach Try.prog (Try.f7.params.toList ++ Rows.spansFollowSpec.plain.varTypes Try.prog) (ds ++ gs)).all (· ≤ reachBytes) = true := hsz0
  rw [Try.params7] at hA hval hsz
  obtain ⟨v0, vs0, d0, ds0, p0, q0, hargs, rfl, rfl, h0, r0⟩ := trodAll_cons hA
  obtain ⟨v1, vs1, d1, ds1, p1, q1, rfl, rfl, rfl, h1, r1⟩ := trodAll_cons r0
  obtain ⟨v2, vs2, d2, ds2, p2, q2, rfl, rfl, rfl, h2, r2⟩ := trodAll_cons r1
  obtain ⟨v3, vs3, d3, ds3, p3, q3, rfl, rfl, rfl, h3, r3⟩ := trodAll_cons r2
  obtain ⟨v4, vs4, d4, ds4, p4, q4, rfl, rfl, rfl, h4, r4⟩ := trodAll_cons r3
  obtain ⟨v5, vs5, d5, ds5, p5, q5, rfl, rfl, rfl, h5, r5⟩ := trodAll_cons r4
  obtain ⟨rfl, rfl, rfl⟩ := trodAll_nil r5
  obtain rfl : args = #[v0, v1, v2, v3, v4, v5] := by cases args; simp_all
  obtain ⟨rfl, rfl⟩ := trodVars_none hV
  obtain ⟨a0, rfl, rfl, rfl, w0⟩ := open_string Try.underlying9 (hval 0 9 v0 rfl rfl) h0
  have z0 : a0.size ≤ 140737488351232 := sized_string hsz (j := 0) (t := 9) rfl rfl
  obtain ⟨a1, rfl, rfl, rfl, w1⟩ := open_int Try.underlying3 (hval 1 3 v1 rfl rfl) h1
  obtain ⟨a2, rfl, rfl, rfl, w2⟩ := open_int Try.underlying3 (hval 2 3 v2 rfl rfl) h2
  obtain ⟨a3, rfl, rfl, rfl, w3⟩ := open_string Try.underlying9 (hval 3 9 v3 rfl rfl) h3
  have z3 : a3.size ≤ 140737488351232 := sized_string hsz (j := 3) (t := 9) rfl rfl
  obtain ⟨a4, rfl, rfl, rfl, w4⟩ := open_int Try.underlying3 (hval 4 3 v4 rfl rfl) h4
  obtain ⟨a5, rfl, rfl, rfl, w5⟩ := open_int Try.underlying3 (hval 5 3 v5 rfl rfl) h5
  clear hA0 hval0 hsz0 hsz
  simp only [List.append_nil] at hW'
  refine (walk a0 a1 a2 a3 a4 a5 z0 w1 w2 z3 w4 w5 W).mono fun e W' ⟨he, hg⟩ => ?_
  subst he
  exact ⟨_, rfl, _, _, _, [], [], [], hW', (trodAll_cons_mk (shut_bool Try.underlying4 _) trodAll_mk0), (trodAll_cons_mk (shut_string Try.underlying9 w0) (trodAll_cons_mk (shut_int Try.underlying3 w1) (trodAll_cons_mk (shut_int Try.underlying3 w2) (trodAll_cons_mk (shut_string Try.underlying9 w3) (trodAll_cons_mk (shut_int Try.underlying3 w4) (trodAll_cons_mk (shut_int Try.underlying3 w5) trodAll_mk0)))))), rfl, hg.frame _, fun h => by cases h⟩

theorem over : Rows.spansFollowRow.holds Try.pinned (OpenSpec.ofChange Rows.spansFollowSpec) :=
  OpenClaim.holds_of_wide 7 Try.f7 rfl rfl rfl rfl rfl rfl rfl ⟨rfl, rfl, rfl, rfl, rfl⟩ rfl rfl rfl rfl rfl (by kernel_rfl) Try.func7 (by kernel_rfl)
    (of_decide_eq_true (by kernel_rfl)) (by unfold Func.isWrapper; first | (rw [if_pos (by decide +kernel)]; kernel_rfl) | (rw [if_neg (by decide +kernel)]; exact ⟨rfl, rfl⟩))
    (fun os started H enc _ => lifted os started H enc)

end Go.Proofs.Ytfblmfjgbbeheaa.spansFollow
namespace Go.Proofs.Ytfblmfjgbbeheaa
/-- The given statement. -/
theorem spansFollow_holds : Rows.SpansFollowSaid := spansFollow.over
#print axioms spansFollow_holds
end Go.Proofs.Ytfblmfjgbbeheaa
