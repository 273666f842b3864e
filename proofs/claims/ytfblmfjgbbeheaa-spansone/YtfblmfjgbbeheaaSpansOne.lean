/- SpansOne: what spans have is told in one way alone, which tells it to be so: for every input. -/
import Derived.Test.YtfblmfjgbbeheaaRows
import Derived.WalkKit
import Derived.ProofKit
import Derived.OpenShut
import Derived.Test.YtfblmfjgbbeheaaSp8
import Derived.ShutString
import Derived.ChangeOld
import Derived.Below
namespace Go.Proofs.Ytfblmfjgbbeheaa.spansOne
open Go.ChangeShapes Go.WideShapes Go.ChangeAt Go.RowKit
open Go.ChangeMaps (open_string shut_string)
set_option linter.unusedVariables false

theorem own : ownKnob Try.prog.godebug = none := by kernel_rfl
theorem laidOut : laidOutB Try.prog = true := by kernel_rfl

/-- WHAT THE WALK IS TOLD OF A SLICE OF INTEGERS THAT CAME IN: it is nil; or it leads to a row of 'cap' cells, the numbers 'zs' (the first 'len' are its elements, the rest its spare room), each fitting its kind. -/
def IsRow (k : IntKind) (w : World) (a : Option Addr) (len cap : Nat) (zs : List Int) : Prop :=
  (a = none ∧ len = 0 ∧ cap = 0 ∧ zs = []) ∨
  ∃ x, a = some x ∧ len ≤ cap ∧ cap ≤ maxLen ∧ zs.length = cap ∧ (∀ i, i < zs.length → w.cell? (x.add i) = some (.int k (zs.getD i 0))) ∧ ∀ n ∈ zs, (Lit.int k n).wf = true

open mem rows span sp
theorem few_at (p : Option Addr) (n c : Nat) (w : World) (hn : n ≤ 40) : Calls Try.prog 28 #[.slice p n c] w fun e w' => e = .returned (.bool true) ∧ w' = w := by
  have hz : (n : Int) ≤ 40 := by omega
  go_enter Try.func28, Try.ntmps28
  go_wp2
  go_ret
  exact ⟨rfl, rfl⟩
theorem few_no (p : Option Addr) (n c : Nat) (w : World) (hn : ¬ n ≤ 40) : Calls Try.prog 28 #[.slice p n c] w fun e w' => e = .returned (.bool false) ∧ w' = w := by
  have hz : ¬ ((n : Int) ≤ 40) := by omega
  go_enter Try.func28, Try.ntmps28
  go_wp2
  go_ret
  exact ⟨rfl, rfl⟩
theorem isOf_self {l : List (Int × Int)} (h : right l) : IsOf (has l) l := ⟨h, fun p => ⟨fun hp => ⟨by have := has_gt h hp; omega, hp⟩, fun hp => hp.2⟩⟩
theorem right_yes {f : Int → Prop} {l : List (Int × Int)} (h : IsOf f l) : rightB (-1) l = true := (rightB_iff _ _).2 h.1
/-- What is right is just what it is told as. -/
theorem right_same {l m : List (Int × Int)} (h : IsOf (has l) m) : rightB (-1) l = (decide (l.length = 0) || decide (m = l)) := by
  by_cases h0 : l.length = 0
  · have : l = [] := List.eq_nil_of_length_eq_zero h0
    subst this
    rfl
  · rw [decide_eq_false h0, Bool.false_or, Bool.eq_iff_iff, rightB_iff, decide_eq_true_iff]
    constructor
    · intro hr
      exact h.same (isOf_self hr) (fun _ _ => Iff.rfl)
    · intro e
      rw [← e]
      exact h.1
theorem has_same {l m : List (Int × Int)} (h : IsOf (has l) m) (p : Int) (hp : 0 ≤ p) : hasB m p = hasB l p := by
  rw [Bool.eq_iff_iff, hasB_iff, hasB_iff, h.2]
  exact ⟨fun x => x.2, fun x => ⟨hp, x⟩⟩
theorem Right_of {f : Int → Prop} (v : Value) (l : List (Int × Int)) (w : World) (hv : View w v l) (hi : IsOf f l) (hl : l.length ≤ 4000) : Calls Try.prog 15 #[v] w fun e w' => e = .returned (.bool true) ∧ Bl w w' := by
  have h := Right_at v l w hv (by omega)
  rwa [right_yes hi] at h
theorem Of_of {f : Int → Prop} (v : Value) (l : List (Int × Int)) (w : World) (hv : View w v l) (hi : IsOf f l) (hl : l.length ≤ 4000) : Calls Try.prog 19 #[v] w fun e w' => ∃ v', e = .returned v' ∧ View w' v' l ∧ Bl w w' := by
  refine (Of_at v l w hv hl).mono ?_
  rintro e w' ⟨v', l', rfl, ho, hi', _, hb⟩
  have e := hi'.same (isOf_self hi.1) (fun _ _ => Iff.rfl)
  subst e
  exact ⟨v', rfl, ho.view, hb⟩
theorem Equal_yes (v v' : Value) (l : List (Int × Int)) (w : World) (hv : View w v l) (hv' : View w v' l) (hl : l.length ≤ 4000) : Calls Try.prog 29 #[v, v'] w fun e w' => e = .returned (.bool true) ∧ Bl w w' := by
  have h := equal_at v v' l l w hv hv' (by omega) (by omega)
  rwa [decide_eq_true rfl] at h
theorem Has_of (v : Value) (l m : List (Int × Int)) (p : Int) (w : World) (hv : View w v m) (hi : IsOf (has l) m) (hp : 0 ≤ p) (hl : m.length ≤ 4000) : Calls Try.prog 17 #[v, .int .i64 p] w fun e w' => e = .returned (.bool (hasB l p)) ∧ Bl w w' := by
  have h := Has_at v m p w hv (by omega)
  rwa [has_same hi p hp] at h
theorem bool_refl (b : Bool) : (b == b) = true := by cases b <;> rfl
set_option maxHeartbeats 2000000 in
set_option maxRecDepth 20000 in
theorem walk (a0 : Option Addr) (len0 cap0 : Nat) (z0 : List (Int × Int)) (a1 : Int) (w : World) (w0 : sp.IsSp w a0 len0 cap0 z0) (w1 : (Lit.int .i64 a1).wf = true) :
    Calls Try.prog 5 #[.slice a0 len0 cap0, .int .i64 a1] w fun e w' => e = .returned (.bool true) ∧ Below w.heap.size w w' := by
  obtain ⟨hlen, hin, hfit⟩ := w0
  subst hlen
  clear w1 hfit
  by_cases hn : z0.length ≤ 40
  · have hv : View w (.slice a0 z0.length cap0) z0 := ⟨_, _, rfl, hin⟩
    clear hin
    have cF := fun w => few_at a0 z0.length cap0 w hn
    have cO := fun w h => Of_at (.slice a0 z0.length cap0) z0 w h (by omega)
    have HL : Hid (z0.length ≤ 40) := hn
    clear hn
    obtain ⟨n, hnn⟩ : ∃ n, n = z0.length := ⟨_, rfl⟩
    rw [← hnn] at hv cF cO ⊢
    have HN : Hid (n = z0.length) := hnn
    clear hnn
    have HV : Hid (View w (.slice a0 n cap0) z0) := hv
    clear hv
    go_enter Try.func5, Try.ntmps5
    go_wp2_with (first
      | (go_at_call 27; refine (spanned_at _).mono ?_; rintro e v1 ⟨rfl, hg1⟩; have HV1 : Hid (View v1 (.slice a0 n cap0) z0) := HV.out.step hg1)
      | (go_at_call 28; refine (cF _).mono ?_; rintro e v2 ⟨rfl, rfl⟩)
      | (go_at_call_of 19 (Value.slice a0 n cap0); refine (cO _ HV1.out).mono ?_; rintro e v3 ⟨mv, m, rfl, ho, hi, hml, hb3⟩; obtain ⟨q, c, rfl, hq⟩ := ho.view; have HI : Hid (IsOf (has z0) m) := hi; have HVm : Hid (View v3 (.slice q m.length c) m) := ⟨_, _, rfl, hq⟩; have HML : Hid (m.length ≤ 4000) := (by have h1 := hml; have h2 := HN.out; have h3 := HL.out; show m.length ≤ 4000; omega); generalize m.length = mk at HVm ⊢; have HV3 : Hid (View v3 (.slice a0 n cap0) z0) := HV1.out.step hb3; have hg3 := hg1.trans hb3; clear hi hq hml ho))
    have HR : Hid (rightB (-1) z0 = (decide (z0.length = 0) || decide (m = z0))) := right_same HI.out
    clear cO cF
    by_cases haa : a1 < 0
    · have ha := haa
      by_cases hz : n = 0
      · have hz1 : (n : Int) = 0 := by omega
        have HRR : Hid (rightB (-1) z0 = true) := by rw [Hid, HR.out, ← HN.out, decide_eq_true hz]; rfl
        clear hz
        go_wp2_with (first
          | (go_at_call_of 15 (Value.slice q mk c); refine (Right_of _ _ _ HVm.out HI.out HML.out).mono ?_; rintro e v4 ⟨rfl, hb4⟩; have HVm4 : Hid (View v4 (.slice q mk c) m) := HVm.out.step hb4; have HV4 : Hid (View v4 (.slice a0 n cap0) z0) := HV3.out.step hb4; have hg4 := hg3.trans hb4)
          | (go_at_call 19; refine (Of_of _ _ _ HVm4.out HI.out HML.out).mono ?_; rintro e v5 ⟨mw, rfl, hv5, hb5⟩; have HVm5 : Hid (View v5 (.slice q mk c) m) := HVm4.out.step hb5; have HV5 : Hid (View v5 (.slice a0 n cap0) z0) := HV4.out.step hb5; have hg5 := hg4.trans hb5; obtain ⟨q5, c5, rfl, hq5⟩ := hv5; have HW5 : Hid (View v5 (.slice q5 m.length c5) m) := ⟨_, _, rfl, hq5⟩; generalize m.length = mk5 at HW5 ⊢; clear hq5)
          | (go_at_call_of 29 (Value.slice q5 mk5 c5); refine (Equal_yes _ _ _ _ HW5.out HVm5.out HML.out).mono ?_; rintro e v6 ⟨rfl, hb6⟩; have HVm6 : Hid (View v6 (.slice q mk c) m) := HVm5.out.step hb6; have HV6 : Hid (View v6 (.slice a0 n cap0) z0) := HV5.out.step hb6; have hg6 := hg5.trans hb6)
          | (go_at_call_of 15 (Value.slice a0 n cap0); refine (Right_at _ _ _ HV6.out (Nat.le_trans HL.out (by decide))).mono ?_; rintro e v9 ⟨rfl, hb9⟩; have HVm9 : Hid (View v9 (.slice q mk c) m) := HVm6.out.step hb9; have HV9 : Hid (View v9 (.slice a0 n cap0) z0) := HV6.out.step hb9; have hg9 := hg6.trans hb9))
        go_ret
        exact ⟨ret_bool HRR.out, hg9⟩
      · have hz1 : ¬ ((n : Int) = 0) := by omega
        have HRR : Hid (rightB (-1) z0 = decide (m = z0)) := by rw [Hid, HR.out, ← HN.out, decide_eq_false hz]; rfl
        clear hz
        go_wp2_with (first
          | (go_at_call_of 15 (Value.slice q mk c); refine (Right_of _ _ _ HVm.out HI.out HML.out).mono ?_; rintro e v4 ⟨rfl, hb4⟩; have HVm4 : Hid (View v4 (.slice q mk c) m) := HVm.out.step hb4; have HV4 : Hid (View v4 (.slice a0 n cap0) z0) := HV3.out.step hb4; have hg4 := hg3.trans hb4)
          | (go_at_call 19; refine (Of_of _ _ _ HVm4.out HI.out HML.out).mono ?_; rintro e v5 ⟨mw, rfl, hv5, hb5⟩; have HVm5 : Hid (View v5 (.slice q mk c) m) := HVm4.out.step hb5; have HV5 : Hid (View v5 (.slice a0 n cap0) z0) := HV4.out.step hb5; have hg5 := hg4.trans hb5; obtain ⟨q5, c5, rfl, hq5⟩ := hv5; have HW5 : Hid (View v5 (.slice q5 m.length c5) m) := ⟨_, _, rfl, hq5⟩; generalize m.length = mk5 at HW5 ⊢; clear hq5)
          | (go_at_call_of 29 (Value.slice q5 mk5 c5); refine (Equal_yes _ _ _ _ HW5.out HVm5.out HML.out).mono ?_; rintro e v6 ⟨rfl, hb6⟩; have HVm6 : Hid (View v6 (.slice q mk c) m) := HVm5.out.step hb6; have HV6 : Hid (View v6 (.slice a0 n cap0) z0) := HV5.out.step hb6; have hg6 := hg5.trans hb6)
          | (go_at_call_of 15 (Value.slice a0 n cap0); refine (Right_at _ _ _ HV6.out (Nat.le_trans HL.out (by decide))).mono ?_; rintro e v9 ⟨rfl, hb9⟩; have HVm9 : Hid (View v9 (.slice q mk c) m) := HVm6.out.step hb9; have HV9 : Hid (View v9 (.slice a0 n cap0) z0) := HV6.out.step hb9; have hg9 := hg6.trans hb9)
          | (go_at_call_of 29 (Value.slice a0 n cap0); refine (equal_at _ _ _ _ _ HVm9.out HV9.out (Nat.le_trans HML.out (by decide)) (Nat.le_trans HL.out (by decide))).mono ?_; rintro e v10 ⟨rfl, hb10⟩; have hg10 := hg9.trans hb10))
        go_ret
        exact ⟨ret_bool (by rw [HRR.out, show ((n : Int) == 0) = false by rw [beq_eq_false_iff_ne]; exact hz1, Bool.false_or]; exact bool_refl _), hg10⟩
    · have ha : 0 ≤ a1 := by omega
      by_cases hz : n = 0
      · have hz1 : (n : Int) = 0 := by omega
        have HRR : Hid (rightB (-1) z0 = true) := by rw [Hid, HR.out, ← HN.out, decide_eq_true hz]; rfl
        clear hz
        go_wp2_with (first
          | (go_at_call_of 15 (Value.slice q mk c); refine (Right_of _ _ _ HVm.out HI.out HML.out).mono ?_; rintro e v4 ⟨rfl, hb4⟩; have HVm4 : Hid (View v4 (.slice q mk c) m) := HVm.out.step hb4; have HV4 : Hid (View v4 (.slice a0 n cap0) z0) := HV3.out.step hb4; have hg4 := hg3.trans hb4)
          | (go_at_call 19; refine (Of_of _ _ _ HVm4.out HI.out HML.out).mono ?_; rintro e v5 ⟨mw, rfl, hv5, hb5⟩; have HVm5 : Hid (View v5 (.slice q mk c) m) := HVm4.out.step hb5; have HV5 : Hid (View v5 (.slice a0 n cap0) z0) := HV4.out.step hb5; have hg5 := hg4.trans hb5; obtain ⟨q5, c5, rfl, hq5⟩ := hv5; have HW5 : Hid (View v5 (.slice q5 m.length c5) m) := ⟨_, _, rfl, hq5⟩; generalize m.length = mk5 at HW5 ⊢; clear hq5)
          | (go_at_call_of 29 (Value.slice q5 mk5 c5); refine (Equal_yes _ _ _ _ HW5.out HVm5.out HML.out).mono ?_; rintro e v6 ⟨rfl, hb6⟩; have HVm6 : Hid (View v6 (.slice q mk c) m) := HVm5.out.step hb6; have HV6 : Hid (View v6 (.slice a0 n cap0) z0) := HV5.out.step hb6; have hg6 := hg5.trans hb6)
          | (go_at_call_of 17 (Value.slice q mk c); refine (Has_of _ _ _ _ _ HVm6.out HI.out ha HML.out).mono ?_; rintro e v7 ⟨rfl, hb7⟩; have HVm7 : Hid (View v7 (.slice q mk c) m) := HVm6.out.step hb7; have HV7 : Hid (View v7 (.slice a0 n cap0) z0) := HV6.out.step hb7; have hg7 := hg6.trans hb7)
          | (go_at_call_of 17 (Value.slice a0 n cap0); refine (Has_at _ _ _ _ HV7.out (Nat.le_trans HL.out (by decide))).mono ?_; rintro e v8 ⟨rfl, hb8⟩; have HVm8 : Hid (View v8 (.slice q mk c) m) := HVm7.out.step hb8; have HV8 : Hid (View v8 (.slice a0 n cap0) z0) := HV7.out.step hb8; have hg8 := hg7.trans hb8)
          | (go_at_call_of 15 (Value.slice a0 n cap0); refine (Right_at _ _ _ HV8.out (Nat.le_trans HL.out (by decide))).mono ?_; rintro e v9 ⟨rfl, hb9⟩; have HVm9 : Hid (View v9 (.slice q mk c) m) := HVm8.out.step hb9; have HV9 : Hid (View v9 (.slice a0 n cap0) z0) := HV8.out.step hb9; have hg9 := hg8.trans hb9))
        go_ret
        exact ⟨ret_bool HRR.out, hg9⟩
      · have hz1 : ¬ ((n : Int) = 0) := by omega
        have HRR : Hid (rightB (-1) z0 = decide (m = z0)) := by rw [Hid, HR.out, ← HN.out, decide_eq_false hz]; rfl
        clear hz
        go_wp2_with (first
          | (go_at_call_of 15 (Value.slice q mk c); refine (Right_of _ _ _ HVm.out HI.out HML.out).mono ?_; rintro e v4 ⟨rfl, hb4⟩; have HVm4 : Hid (View v4 (.slice q mk c) m) := HVm.out.step hb4; have HV4 : Hid (View v4 (.slice a0 n cap0) z0) := HV3.out.step hb4; have hg4 := hg3.trans hb4)
          | (go_at_call 19; refine (Of_of _ _ _ HVm4.out HI.out HML.out).mono ?_; rintro e v5 ⟨mw, rfl, hv5, hb5⟩; have HVm5 : Hid (View v5 (.slice q mk c) m) := HVm4.out.step hb5; have HV5 : Hid (View v5 (.slice a0 n cap0) z0) := HV4.out.step hb5; have hg5 := hg4.trans hb5; obtain ⟨q5, c5, rfl, hq5⟩ := hv5; have HW5 : Hid (View v5 (.slice q5 m.length c5) m) := ⟨_, _, rfl, hq5⟩; generalize m.length = mk5 at HW5 ⊢; clear hq5)
          | (go_at_call_of 29 (Value.slice q5 mk5 c5); refine (Equal_yes _ _ _ _ HW5.out HVm5.out HML.out).mono ?_; rintro e v6 ⟨rfl, hb6⟩; have HVm6 : Hid (View v6 (.slice q mk c) m) := HVm5.out.step hb6; have HV6 : Hid (View v6 (.slice a0 n cap0) z0) := HV5.out.step hb6; have hg6 := hg5.trans hb6)
          | (go_at_call_of 17 (Value.slice q mk c); refine (Has_of _ _ _ _ _ HVm6.out HI.out ha HML.out).mono ?_; rintro e v7 ⟨rfl, hb7⟩; have HVm7 : Hid (View v7 (.slice q mk c) m) := HVm6.out.step hb7; have HV7 : Hid (View v7 (.slice a0 n cap0) z0) := HV6.out.step hb7; have hg7 := hg6.trans hb7)
          | (go_at_call_of 17 (Value.slice a0 n cap0); refine (Has_at _ _ _ _ HV7.out (Nat.le_trans HL.out (by decide))).mono ?_; rintro e v8 ⟨rfl, hb8⟩; have HVm8 : Hid (View v8 (.slice q mk c) m) := HVm7.out.step hb8; have HV8 : Hid (View v8 (.slice a0 n cap0) z0) := HV7.out.step hb8; have hg8 := hg7.trans hb8)
          | (go_at_call_of 15 (Value.slice a0 n cap0); refine (Right_at _ _ _ HV8.out (Nat.le_trans HL.out (by decide))).mono ?_; rintro e v9 ⟨rfl, hb9⟩; have HVm9 : Hid (View v9 (.slice q mk c) m) := HVm8.out.step hb9; have HV9 : Hid (View v9 (.slice a0 n cap0) z0) := HV8.out.step hb9; have hg9 := hg8.trans hb9)
          | (go_at_call_of 29 (Value.slice a0 n cap0); refine (equal_at _ _ _ _ _ HVm9.out HV9.out (Nat.le_trans HML.out (by decide)) (Nat.le_trans HL.out (by decide))).mono ?_; rintro e v10 ⟨rfl, hb10⟩; have hg10 := hg9.trans hb10))
        go_ret
        exact ⟨ret_bool (by rw [HRR.out, show ((n : Int) == 0) = false by rw [beq_eq_false_iff_ne]; exact hz1, Bool.false_or]; exact bool_refl _), hg10⟩
  · have cF := fun w => few_no a0 z0.length cap0 w hn
    generalize z0.length = n at cF
    clear hn
    go_enter Try.func5, Try.ntmps5
    go_wp2_with (first
      | (go_at_call 27; refine (spanned_at _).mono ?_; rintro e v1 ⟨rfl, hg1⟩)
      | (go_at_call 28; refine (cF _).mono ?_; rintro e v2 ⟨rfl, rfl⟩))
    go_ret
    exact ⟨rfl, hg1⟩

set_option maxRecDepth 100000 in
theorem lifted (os : Os) (started : os.Started) (H : Type) (enc : TypeId × Value → H) :
    ReturnsInHanded {} Try.checked os 5 .any (Rows.spansOneSpec.pre6 enc Try.prog Try.f5 Rows.spansOneRow.domain false) (Rows.spansOneSpec.post enc Try.prog Try.f5 false true false false) := by
  refine returnsInHanded_of_change (C := Try.checked) own started (by kernel_rfl) Try.func5
    (ChangeSpec.witness6 (enc := enc) (C := Try.checked) false ⟨#[], #[.slice none 0 0, .int .i64 0], []⟩ 8 (by kernel_rfl) (by kernel_rfl) (by kernel_rfl) (by kernel_rfl)) ?_
  intro W base args ds gs before hval0 hW hcnd _
  have hval : ∀ (j : Nat) t v, Try.f5.params[j]? = some t → args[j]? = some v → Value.okWide Try.prog W .any base t v := hval0
  have hW' := hW
  obtain ⟨p, q, hA0, hV, rfl, hfz, hnd⟩ := hW
  have hA : DataW.TrodAll enc Try.prog W 0 (fun _ => true) true Try.f5.params.toList args.toList ds p := hA0
  rw [Try.params5] at hA hval
  obtain ⟨v0, vs0, d0, ds0, p0, q0, hargs, rfl, rfl, h0, r0⟩ := trodAll_cons hA
  obtain ⟨v1, vs1, d1, ds1, p1, q1, rfl, rfl, rfl, h1, r1⟩ := trodAll_cons r0
  obtain ⟨rfl, rfl, rfl⟩ := trodAll_nil r1
  obtain rfl : args = #[v0, v1] := by cases args; simp_all
  obtain ⟨rfl, rfl⟩ := trodVars_none hV
  obtain ⟨a0, len0, cap0, rfl⟩ := okWide_slice Try.underlying22 (hval 0 22 v0 rfl rfl)
  have k0 := h0
  have lt0 : ∀ x ∈ p0, x.block < W.heap.size := by obtain ⟨m, hm⟩ := k0; exact DataW.trod_lt m _ _ _ hm
  obtain ⟨z0, w0⟩ : ∃ zs, sp.IsSp W a0 len0 cap0 zs := sp.sp_open h0
  obtain ⟨a1, rfl, rfl, rfl, w1⟩ := open_int Try.underlying3 (hval 1 3 v1 rfl rfl) h1
  clear hA0 hval0
  refine (walk a0 len0 cap0 z0 a1 W w0 w1).mono fun e W' ⟨he, bel⟩ => ?_
  subst he
  exact ⟨_, rfl, _, _, _, [], _, [], hW', trodAll_mk1 (shut_bool Try.underlying4 _), (trodAll_cons_mk (Below.trod laidOut (by kernel_rfl) (of_decide_eq_true (by kernel_rfl)) k0 bel lt0) (trodAll_cons_mk (shut_int Try.underlying3 w1) trodAll_mk0)), rfl, bel.frame _, fun h => by cases h⟩

theorem over : Rows.spansOneRow.holds Try.pinned (OpenSpec.ofChange Rows.spansOneSpec) :=
  OpenClaim.holds_of_wide 5 Try.f5 rfl rfl rfl rfl rfl rfl rfl ⟨rfl, rfl, rfl, rfl, rfl⟩ rfl rfl rfl rfl rfl (by kernel_rfl) Try.func5 (by kernel_rfl)
    (of_decide_eq_true (by kernel_rfl)) (by unfold Func.isWrapper; first | (rw [if_pos (by decide +kernel)]; kernel_rfl) | (rw [if_neg (by decide +kernel)]; exact ⟨rfl, rfl⟩))
    (fun os started H enc _ => lifted os started H enc)

end Go.Proofs.Ytfblmfjgbbeheaa.spansOne
namespace Go.Proofs.Ytfblmfjgbbeheaa
/-- The given statement. -/
theorem spansOne_holds : Rows.SpansOneSaid := spansOne.over
#print axioms spansOne_holds
end Go.Proofs.Ytfblmfjgbbeheaa
