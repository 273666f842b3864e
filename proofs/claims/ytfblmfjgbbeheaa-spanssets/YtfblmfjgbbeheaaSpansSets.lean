/- SpansSets: what any spans have, alone, and together with others, is as the document tells it: for every input. -/
import Derived.Test.YtfblmfjgbbeheaaRows
import Derived.WalkKit
import Derived.ProofKit
import Derived.OpenShut
import Derived.Test.YtfblmfjgbbeheaaSSr
import Derived.ShutString
import Derived.ChangeOld
import Derived.Below
namespace Go.Proofs.Ytfblmfjgbbeheaa.spansSets
open Go.ChangeShapes Go.WideShapes Go.ChangeAt Go.RowKit
open Go.ChangeMaps (open_string shut_string)
set_option linter.unusedVariables false

theorem own : ownKnob Try.prog.godebug = none := by kernel_rfl
theorem laidOut : laidOutB Try.prog = true := by kernel_rfl

/-- WHAT THE WALK IS TOLD OF A SLICE OF INTEGERS THAT CAME IN: it is nil; or it leads to a row of 'cap' cells, the numbers 'zs' (the first 'len' are its elements, the rest its spare room), each fitting its kind. -/
def IsRow (k : IntKind) (w : World) (a : Option Addr) (len cap : Nat) (zs : List Int) : Prop :=
  (a = none ∧ len = 0 ∧ cap = 0 ∧ zs = []) ∨
  ∃ x, a = some x ∧ len ≤ cap ∧ cap ≤ maxLen ∧ zs.length = cap ∧ (∀ i, i < zs.length → w.cell? (x.add i) = some (.int k (zs.getD i 0))) ∧ ∀ n ∈ zs, (Lit.int k n).wf = true

open mem rows span sp
set_option maxHeartbeats 8000000 in
set_option maxRecDepth 100000 in
theorem walk (a0 : Option Addr) (len0 cap0 : Nat) (z0 : List (Int × Int)) (a1 : Option Addr) (len1 cap1 : Nat) (z1 : List (Int × Int)) (a2 : Int) (a3 : Int) (w : World) (w0 : sp.IsSp w a0 len0 cap0 z0) (w1 : sp.IsSp w a1 len1 cap1 z1) (w2 : (Lit.int .i64 a2).wf = true) (w3 : (Lit.int .i64 a3).wf = true) :
    Calls Try.prog 3 #[.slice a0 len0 cap0, .slice a1 len1 cap1, .int .i64 a2, .int .i64 a3] w fun e w' => e = .returned (.bool true) ∧ Below w.heap.size w w' := by
  have hi3 := bounds_i64 w3
  obtain ⟨hl0, hin0, hf0, hp0⟩ := w0
  obtain ⟨hl1, hin1, hf1, hp1⟩ := w1
  have HI3 : Hid (i64 a3) := hi3
  have HV0 : Hid (Vw w a0 len0 cap0 z0) := ⟨hl0.symm, hin0, hp0⟩
  have HV1 : Hid (Vw w a1 len1 cap1 z1) := ⟨hl1.symm, hin1, hp1⟩
  have HF0 : Hid (Fit z0) := hf0
  have HF1 : Hid (Fit z1) := hf1
  clear hl0 hl1 hin0 hin1 hf0 hf1 hp0 hp1 w2 w3 hi3
  by_cases h0 : len0 ≤ 60
  rotate_left
  · have cf := fun w => many_yes a0 len0 cap0 w h0
    clear h0
    go_enter Try.func3, Try.ntmps3
    go_wp2_with (go_at_call 8; refine (cf _).mono ?_; rintro e v2 ⟨rfl, rfl⟩)
    go_ret
    exact ⟨rfl, (((Bl.refl _).alloc _).alloc _).alloc _⟩
  by_cases h1 : len1 ≤ 60
  rotate_left
  · have cf0 := fun w => many_no a0 len0 cap0 w h0
    have cf := fun w => many_yes a1 len1 cap1 w h1
    clear h0 h1
    go_enter Try.func3, Try.ntmps3
    go_wp2_with (first
      | (go_at_call_of 8 (Value.slice a0 len0 cap0); refine (cf0 _).mono ?_; rintro e v2 ⟨rfl, rfl⟩)
      | (go_at_call_of 8 (Value.slice a1 len1 cap1); refine (cf _).mono ?_; rintro e v2 ⟨rfl, rfl⟩))
    go_ret
    exact ⟨rfl, (((Bl.refl _).alloc _).alloc _).alloc _⟩
  have cf0 := fun w => many_no a0 len0 cap0 w h0
  have cf1 := fun w => many_no a1 len1 cap1 w h1
  have HH0 : Hid (len0 ≤ 60) := h0
  have HH1 : Hid (len1 ≤ 60) := h1
  clear h0 h1
  go_enter Try.func3, Try.ntmps3
  go_wp2_with (first
    | (go_at_call_of 8 (Value.slice a0 len0 cap0); refine (cf0 _).mono ?_; rintro e v2 ⟨rfl, rfl⟩)
    | (go_at_call_of 8 (Value.slice a1 len1 cap1); refine (cf1 _).mono ?_; rintro e v2 ⟨rfl, rfl⟩))
  obtain ⟨y0, hy0⟩ : ∃ y, y = ((w.alloc (Obj.cells #[Value.slice a0 len0 cap0] 22)).alloc (Obj.cells #[Value.slice a1 len1 cap1] 22)).alloc (Obj.cells #[Value.int IntKind.i64 a3] 3) := ⟨_, rfl⟩
  have hX : w.heap.size + 1 + 1 + 1 = y0.heap.size := by rw [hy0]; simp
  have hB : Bl w y0 := by rw [hy0]; exact (((Bl.refl _).alloc _).alloc _).alloc _
  have k0 : y0.cell? ⟨w.heap.size, 0, none⟩ = some (.slice a0 len0 cap0) := by rw [hy0]; exact at_bl (((Bl.refl _).alloc _).alloc _) (by go_simp)
  have k1 : y0.cell? ⟨w.heap.size + 1, 0, none⟩ = some (.slice a1 len1 cap1) := by rw [hy0]; exact at_bl ((Bl.refl _).alloc _) (by go_simp)
  have k2 : y0.cell? ⟨w.heap.size + 1 + 1, 0, none⟩ = some (.int .i64 a3) := by rw [hy0]; go_simp
  rw [← hy0, hX]
  clear hy0 hX cf0 cf1
  generalize w.heap.size + 1 + 1 = D at k2 ⊢
  generalize w.heap.size + 1 = C at k1 ⊢
  generalize w.heap.size = B at k0 ⊢
  have HB : Hid (Bl w y0) := hB
  refine (or_step HB.out k0 k1 HV0.out HV1.out HF0.out HF1.out HH0.out HH1.out).mono ?_
  rintro e y1 ⟨u1, rfl, s1, hb⟩
  replace k0 := at_bl hb k0
  replace k1 := at_bl hb k1
  replace k2 := at_bl hb k2
  replace HB : Hid (Bl w y1) := HB.out.trans hb
  clear hb hB
  go_wp2_with (fail)
  refine (and_step HB.out k0 k1 HV0.out HV1.out HF0.out HF1.out HH0.out HH1.out).mono ?_
  rintro e y2 ⟨u2, rfl, s2, hb⟩
  replace k0 := at_bl hb k0
  replace k1 := at_bl hb k1
  replace k2 := at_bl hb k2
  replace s1 := Sp.hid s1 hb
  replace HB : Hid (Bl w y2) := HB.out.trans hb
  clear hb
  go_wp2_with (fail)
  refine (not_step HB.out k0 k2 HV0.out HF0.out HI3.out HH0.out).mono ?_
  rintro e y3 ⟨u3, rfl, s3, hb⟩
  replace k0 := at_bl hb k0
  replace k1 := at_bl hb k1
  replace k2 := at_bl hb k2
  replace s1 := Sp.hid s1 hb
  replace s2 := Sp.hid s2 hb
  replace HB : Hid (Bl w y3) := HB.out.trans hb
  clear hb
  go_wp2_with (fail)
  refine (refOf_at a0 len0 cap0 z0 _ HV0.out.1 (HV0.out.step HB.out).2.1 HF0.out (Nat.le_trans HH0.out (by decide))).mono ?_
  rintro e y4 ⟨u4, rfl, R, ho4, hi4, hn4, hb⟩
  obtain ⟨q, c, rfl, hq⟩ := ho4.view
  replace k0 := at_bl hb k0
  replace k1 := at_bl hb k1
  replace k2 := at_bl hb k2
  replace s1 := Sp.hid s1 hb
  replace s2 := Sp.hid s2 hb
  replace s3 := Sp.hid s3 hb
  replace HB : Hid (Bl w y4) := HB.out.trans hb
  obtain ⟨n, hn⟩ : ∃ n, n = R.length := ⟨_, rfl⟩
  rw [← hn] at hn4 ⊢
  have HN : Hid (n = R.length) := hn
  have HQ : Hid (InS y4 q R) := hq
  have HI : Hid (IsOf (has z0) R) := hi4
  have HT : Hid (∀ x ∈ R, 0 ≤ x.1 ∧ x.1 < x.2 ∧ x.2 ≤ 9223372036854775807) := hi4.fit _ (fit_lt HF0.out)
  clear hb hn ho4 hq hi4
  go_wp2_with (fail)
  go_loopw [12, 41] (fun nv i wr => ∃ (k : Nat) (z : Int), k ≤ n ∧ i = .int .i64 (k : Int) ∧ nv = .int .i64 z ∧ Hid (z = size (R.take k)) ∧ Bl y4 wr) (fun _ i _ => n - (intOf i).toNat)
  case atStart => exact ⟨0, 0, Nat.zero_le _, rfl, rfl, rfl, Bl.refl _⟩
  case round =>
    obtain ⟨k, z, hk, rfl, rfl, HZ, hbl⟩ := hrel
    by_cases hlt : k < n
    · have hlz : (k : Int) < (n : Int) := by omega
      have hkS : k < R.length := by rw [← HN.out]; exact hlt
      obtain ⟨x, rfl, hc1, hc2⟩ := (HQ.out.step hbl).at k hkS
      have ht := HT.out _ (nth_mem R k hkS)
      have HZ' := size_take R k hkS
      have hb := size_bd (right_take HI.out.1 (k + 1)) (B := 9223372036854775807) (fun x hx => (HT.out x (List.mem_of_mem_take hx)).2.2)
      rw [HZ', ← HZ.out] at hb
      rw [← HZ.out] at HZ'
      have HZ2 : Hid (size (R.take (k + 1)) = z + ((nth R k).2 - (nth R k).1)) := HZ'
      clear HZ HZ'
      generalize (nth R k).1 = a at hc1 ht HZ2 hb
      generalize (nth R k).2 = b at hc2 ht HZ2 hb
      obtain ⟨ht1, ht2, ht3⟩ := ht
      obtain ⟨hb2, hb3⟩ := hb
      have hb4 : z + (b - a) ≤ 9223372036854775807 := by omega
      clear hb3
      go_wp2
      go_roundw
      case rel => exact ⟨k + 1, _, by omega, by go_num, rfl, HZ2.out.symm, hbl.alloc _⟩
      case measure => simp [intOf]; omega
    · obtain rfl : k = n := by omega
      have HZ' : Hid (z = size R) := by have h := HZ.out; rw [HN.out, List.take_length] at h; exact h
      clear HZ
      have hdone : ¬ ((k : Int) < (k : Int)) := by omega
      go_wp2
      have HB5 : Hid (Bl w wr) := HB.out.trans hbl
      replace k0 := at_bl hbl k0
      replace k1 := at_bl hbl k1
      replace k2 := at_bl hbl k2
      replace s1 := Sp.hid s1 hbl
      replace s2 := Sp.hid s2 hbl
      replace s3 := Sp.hid s3 hbl
      have HLN0 : Hid (z0.length ≤ 60) := by rw [Hid, ← HV0.out.1]; exact HH0.out
      have HLN1 : Hid (z1.length ≤ 60) := by rw [Hid, ← HV1.out.1]; exact HH1.out
      have KK : Hid (wr.drew.cell? ⟨B, 0, none⟩ = some (.slice a0 len0 cap0) ∧ wr.drew.cell? ⟨C, 0, none⟩ = some (.slice a1 len1 cap1) ∧ wr.drew.cell? ⟨D, 0, none⟩ = some (.int .i64 a3)) := ⟨at_bl ((Bl.refl _).drew) k0, at_bl ((Bl.refl _).drew) k1, at_bl ((Bl.refl _).drew) k2⟩
      clear k0 k1 k2 hbl hdone HQ HT
      change Code.wp _ (Code.region 12 ssr.opsR true) _ _ _
      refine ssr.start (S := fun w' => w'.cell? ⟨B, 0, none⟩ = some (.slice a0 len0 cap0) ∧ w'.cell? ⟨C, 0, none⟩ = some (.slice a1 len1 cap1) ∧ w'.cell? ⟨D, 0, none⟩ = some (.int .i64 a3)) (by kernel_rfl) (by exact KK.out) (fun hHeld => ?_)
      replace HB5 : Hid (Bl w wr.drew) := HB5.out.drew
      replace s1 := Sp.hid s1 ((Bl.refl _).drew)
      replace s2 := Sp.hid s2 ((Bl.refl _).drew)
      replace s3 := Sp.hid s3 ((Bl.refl _).drew)
      obtain ⟨rr, hrr⟩ : ∃ r, r = rightB (-1) z0 := ⟨_, rfl⟩
      obtain ⟨hh, hhh⟩ : ∃ r, r = hasB z0 a2 := ⟨_, rfl⟩
      have HRR : Hid (rr = rightB (-1) z0) := hrr
      have HHH : Hid (hh = hasB z0 a2) := hhh
      have hq1 : (rr == rr) = true := by cases rr <;> rfl
      have hq2 : (hh == hh) = true := by cases hh <;> rfl
      have hq3 : (z == z) = true := by rw [beq_iff_eq]
      clear hrr hhh
      refine ssr.tk ssr.i0 ssr.f0 ssr.r0 ssr.l0 (fun _ _ _ h => h) (v := ?_) (a' := ?_) (by rfl) ?_ (by assumption) ?_ ?_
      rotate_left 2
      · intro w hSw
        try dsimp only at hSw
        simp only [execOp, ssr.o0]
        go_simp
        try with_reducible rfl
      · simp only [ssr.o0, Act.put, List.setIfInBounds_toArray, List.set_cons_zero, List.set_cons_succ]
        rfl
      refine ssr.tk ssr.i2 ssr.f1 ssr.r1 ssr.l1 (fun _ _ _ h => h) (v := ?_) (a' := ?_) (by rfl) ?_ (by assumption) ?_ ?_
      rotate_left 2
      · intro w hSw
        try dsimp only at hSw
        simp only [execOp, ssr.o2]
        go_simp
        try with_reducible rfl
      · simp only [ssr.o2, Act.put, List.setIfInBounds_toArray, List.set_cons_zero, List.set_cons_succ]
        rfl
      refine ssr.cl ssr.i1 ssr.r2 ssr.l2 (by rfl) (fun K hK => ?_)
      unfold ssr.o1
      go_simp
      go_wp2_with (go_at_call 15; refine (Right_at _ _ _ (vw_view (HV0.out.step HB5.out)) (Nat.le_trans HLN0.out (by decide))).mono ?_; rw [← HRR.out]; rintro e y ⟨rfl, hb⟩; replace s1 := Sp.hid s1 hb; replace s2 := Sp.hid s2 hb; replace s3 := Sp.hid s3 hb; replace HB5 : Hid (Bl w _) := HB5.out.trans hb; replace KK : Hid (_ ∧ _ ∧ _) := ⟨at_bl hb KK.out.1, at_bl hb KK.out.2.1, at_bl hb KK.out.2.2⟩; clear hb)
      clear hHeld
      refine hK.out _ _ (by exact KK.out) (fun hHeld => ?_)
      clear hK K
      try simp only [Act.put, List.setIfInBounds_toArray, List.set_cons_zero, List.set_cons_succ]
      refine ssr.cl ssr.i3 ssr.r3 ssr.l3 (by rfl) (fun K hK => ?_)
      unfold ssr.o3
      go_simp
      go_wp2_with (go_at_call 16; refine (refRight_at _ _ _ (vw_view (HV0.out.step HB5.out)) (Nat.le_trans HLN0.out (by decide))).mono ?_; rw [← HRR.out]; rintro e y ⟨rfl, hb⟩; replace s1 := Sp.hid s1 hb; replace s2 := Sp.hid s2 hb; replace s3 := Sp.hid s3 hb; replace HB5 : Hid (Bl w _) := HB5.out.trans hb; replace KK : Hid (_ ∧ _ ∧ _) := ⟨at_bl hb KK.out.1, at_bl hb KK.out.2.1, at_bl hb KK.out.2.2⟩; clear hb)
      clear hHeld
      refine hK.out _ _ (by exact KK.out) (fun hHeld => ?_)
      clear hK K
      try simp only [Act.put, List.setIfInBounds_toArray, List.set_cons_zero, List.set_cons_succ]
      refine ssr.tk ssr.i4 ssr.f4 ssr.r4 ssr.l4 (fun _ _ _ h => h) (v := ?_) (a' := ?_) (by rfl) ?_ (by assumption) ?_ ?_
      rotate_left 2
      · intro w hSw
        try dsimp only at hSw
        simp only [execOp, ssr.o4]
        go_simp
        try with_reducible rfl
      · simp only [ssr.o4, Act.put, List.setIfInBounds_toArray, List.set_cons_zero, List.set_cons_succ]
        rfl
      refine ssr.tk ssr.i5 ssr.f5 ssr.r5 ssr.l5 (fun _ _ _ h => h) (v := ?_) (a' := ?_) (by rfl) ?_ (by assumption) ?_ ?_
      rotate_left 2
      · intro w hSw
        try dsimp only at hSw
        simp only [execOp, ssr.o5]
        go_simp
        try with_reducible rfl
      · simp only [ssr.o5, Act.put, List.setIfInBounds_toArray, List.set_cons_zero, List.set_cons_succ]
        rfl
      refine ssr.tk ssr.i6 ssr.f6 ssr.r6 ssr.l6 (fun _ _ _ h => h) (v := ?_) (a' := ?_) (by rfl) ?_ (by assumption) ?_ ?_
      rotate_left 2
      · intro w hSw
        try dsimp only at hSw
        simp only [execOp, ssr.o6]
        go_simp
        try with_reducible rfl
      · simp only [ssr.o6, Act.put, List.setIfInBounds_toArray, List.set_cons_zero, List.set_cons_succ]
        rfl
      refine ssr.tk ssr.i7 ssr.f7 ssr.r7 ssr.l7 (fun _ _ _ h => h) (v := ?_) (a' := ?_) (by rfl) ?_ (by assumption) ?_ ?_
      rotate_left 2
      · intro w hSw
        try dsimp only at hSw
        simp only [execOp, ssr.o7]
        go_simp
        try with_reducible rfl
      · simp only [ssr.o7, Act.put, List.setIfInBounds_toArray, List.set_cons_zero, List.set_cons_succ]
        rfl
      refine ssr.tk ssr.i9 ssr.f8 ssr.r8 ssr.l8 (fun _ _ _ h => h) (v := ?_) (a' := ?_) (by rfl) ?_ (by assumption) ?_ ?_
      rotate_left 2
      · intro w hSw
        try dsimp only at hSw
        simp only [execOp, ssr.o9]
        go_simp
        try with_reducible rfl
      · simp only [ssr.o9, Act.put, List.setIfInBounds_toArray, List.set_cons_zero, List.set_cons_succ]
        rfl
      refine ssr.tk ssr.i10 ssr.f9 ssr.r9 ssr.l9 (fun _ _ _ h => h) (v := ?_) (a' := ?_) (by rfl) ?_ (by assumption) ?_ ?_
      rotate_left 2
      · intro w hSw
        try dsimp only at hSw
        simp only [execOp, ssr.o10]
        go_simp
        try with_reducible rfl
      · simp only [ssr.o10, Act.put, List.setIfInBounds_toArray, List.set_cons_zero, List.set_cons_succ]
        rfl
      refine ssr.cl ssr.i8 ssr.r10 ssr.l10 (by rfl) (fun K hK => ?_)
      unfold ssr.o8
      go_simp
      go_wp2_with (go_at_call 17; refine (Has_at _ _ _ _ (vw_view (HV0.out.step HB5.out)) (Nat.le_trans HLN0.out (by decide))).mono ?_; rw [← HHH.out]; rintro e y ⟨rfl, hb⟩; replace s1 := Sp.hid s1 hb; replace s2 := Sp.hid s2 hb; replace s3 := Sp.hid s3 hb; replace HB5 : Hid (Bl w _) := HB5.out.trans hb; replace KK : Hid (_ ∧ _ ∧ _) := ⟨at_bl hb KK.out.1, at_bl hb KK.out.2.1, at_bl hb KK.out.2.2⟩; clear hb)
      clear hHeld
      refine hK.out _ _ (by exact KK.out) (fun hHeld => ?_)
      clear hK K
      try simp only [Act.put, List.setIfInBounds_toArray, List.set_cons_zero, List.set_cons_succ]
      refine ssr.cl ssr.i11 ssr.r11 ssr.l11 (by rfl) (fun K hK => ?_)
      unfold ssr.o11
      go_simp
      go_wp2_with (go_at_call 11; refine (refHas_at _ _ _ _ (vw_view (HV0.out.step HB5.out)) (Nat.le_trans HLN0.out (by decide))).mono ?_; rw [← HHH.out]; rintro e y ⟨rfl, hb⟩; replace s1 := Sp.hid s1 hb; replace s2 := Sp.hid s2 hb; replace s3 := Sp.hid s3 hb; replace HB5 : Hid (Bl w _) := HB5.out.trans hb; replace KK : Hid (_ ∧ _ ∧ _) := ⟨at_bl hb KK.out.1, at_bl hb KK.out.2.1, at_bl hb KK.out.2.2⟩; clear hb)
      clear hHeld
      refine hK.out _ _ (by exact KK.out) (fun hHeld => ?_)
      clear hK K
      try simp only [Act.put, List.setIfInBounds_toArray, List.set_cons_zero, List.set_cons_succ]
      refine ssr.tk ssr.i12 ssr.f12 ssr.r12 ssr.l12 (fun _ _ _ h => h) (v := ?_) (a' := ?_) (by rfl) ?_ (by assumption) ?_ ?_
      rotate_left 2
      · intro w hSw
        try dsimp only at hSw
        simp only [execOp, ssr.o12]
        go_simp
        try with_reducible rfl
      · simp only [ssr.o12, Act.put, List.setIfInBounds_toArray, List.set_cons_zero, List.set_cons_succ]
        rfl
      refine ssr.tk ssr.i13 ssr.f13 ssr.r13 ssr.l13 (fun _ _ _ h => h) (v := ?_) (a' := ?_) (by rfl) ?_ (by assumption) ?_ ?_
      rotate_left 2
      · intro w hSw
        try dsimp only at hSw
        simp only [execOp, ssr.o13]
        go_simp
        try with_reducible rfl
      · simp only [ssr.o13, Act.put, List.setIfInBounds_toArray, List.set_cons_zero, List.set_cons_succ]
        rfl
      refine ssr.tk ssr.i14 ssr.f14 ssr.r14 ssr.l14 (fun _ _ _ h => h) (v := ?_) (a' := ?_) (by rfl) ?_ (by assumption) ?_ ?_
      rotate_left 2
      · intro w hSw
        try dsimp only at hSw
        simp only [execOp, ssr.o14]
        go_simp
        try with_reducible rfl
      · simp only [ssr.o14, Act.put, List.setIfInBounds_toArray, List.set_cons_zero, List.set_cons_succ]
        rfl
      refine ssr.tk ssr.i15 ssr.f15 ssr.r15 ssr.l15 (fun _ _ _ h => h) (v := ?_) (a' := ?_) (by rfl) ?_ (by assumption) ?_ ?_
      rotate_left 2
      · intro w hSw
        try dsimp only at hSw
        simp only [execOp, ssr.o15]
        go_simp
        try with_reducible rfl
      · simp only [ssr.o15, Act.put, List.setIfInBounds_toArray, List.set_cons_zero, List.set_cons_succ]
        rfl
      refine ssr.tk ssr.i17 ssr.f16 ssr.r16 ssr.l16 (fun _ _ _ h => h) (v := ?_) (a' := ?_) (by rfl) ?_ (by assumption) ?_ ?_
      rotate_left 2
      · intro w hSw
        try dsimp only at hSw
        simp only [execOp, ssr.o17]
        go_simp
        try with_reducible rfl
      · simp only [ssr.o17, Act.put, List.setIfInBounds_toArray, List.set_cons_zero, List.set_cons_succ]
        rfl
      refine ssr.cl ssr.i16 ssr.r17 ssr.l17 (by rfl) (fun K hK => ?_)
      unfold ssr.o16
      go_simp
      go_wp2_with (go_at_call 19; refine (Of_vw (vw_view (HV0.out.step HB5.out)) HLN0.out).mono ?_; rintro e y ⟨u5, rfl, s5, hb⟩; replace s1 := Sp.hid s1 hb; replace s2 := Sp.hid s2 hb; replace s3 := Sp.hid s3 hb; replace HB5 : Hid (Bl w _) := HB5.out.trans hb; replace KK : Hid (_ ∧ _ ∧ _) := ⟨at_bl hb KK.out.1, at_bl hb KK.out.2.1, at_bl hb KK.out.2.2⟩; clear hb)
      clear hHeld
      refine hK.out _ _ (by exact KK.out) (fun hHeld => ?_)
      clear hK K
      try simp only [Act.put, List.setIfInBounds_toArray, List.set_cons_zero, List.set_cons_succ]
      refine ssr.cl ssr.i18 ssr.r18 ssr.l18 (by rfl) (fun K hK => ?_)
      unfold ssr.o18
      go_simp
      go_wp2_with (go_at_call 14; refine (refOf_vw (HV0.out.step HB5.out) HF0.out HH0.out).mono ?_; rintro e y ⟨u6, rfl, s6, hb⟩; replace s1 := Sp.hid s1 hb; replace s2 := Sp.hid s2 hb; replace s3 := Sp.hid s3 hb; replace s5 := Sp.hid s5 hb; replace HB5 : Hid (Bl w _) := HB5.out.trans hb; replace KK : Hid (_ ∧ _ ∧ _) := ⟨at_bl hb KK.out.1, at_bl hb KK.out.2.1, at_bl hb KK.out.2.2⟩; clear hb)
      clear hHeld
      refine hK.out _ _ (by exact KK.out) (fun hHeld => ?_)
      clear hK K
      try simp only [Act.put, List.setIfInBounds_toArray, List.set_cons_zero, List.set_cons_succ]
      refine ssr.cl ssr.i19 ssr.r19 ssr.l19 (by rfl) (fun K hK => ?_)
      unfold ssr.o19
      go_simp
      go_wp2_with (go_at_call 18; refine (Same_sp s5.out s6.out (by decide) (by decide) (fun _ _ => Iff.rfl)).mono ?_; rintro e y ⟨rfl, hb⟩; clear s5; clear s6; replace s1 := Sp.hid s1 hb; replace s2 := Sp.hid s2 hb; replace s3 := Sp.hid s3 hb; replace HB5 : Hid (Bl w _) := HB5.out.trans hb; replace KK : Hid (_ ∧ _ ∧ _) := ⟨at_bl hb KK.out.1, at_bl hb KK.out.2.1, at_bl hb KK.out.2.2⟩; clear hb)
      clear hHeld
      refine hK.out _ _ (by exact KK.out) (fun hHeld => ?_)
      clear hK K
      try simp only [Act.put, List.setIfInBounds_toArray, List.set_cons_zero, List.set_cons_succ]
      refine ssr.tk ssr.i20 ssr.f20 ssr.r20 ssr.l20 (fun _ _ _ h => h) (v := ?_) (a' := ?_) (by rfl) ?_ (by assumption) ?_ ?_
      rotate_left 2
      · intro w hSw
        try dsimp only at hSw
        simp only [execOp, ssr.o20]
        go_simp
        try with_reducible rfl
      · simp only [ssr.o20, Act.put, List.setIfInBounds_toArray, List.set_cons_zero, List.set_cons_succ]
        rfl
      refine ssr.tk ssr.i21 ssr.f21 ssr.r21 ssr.l21 (fun _ _ _ h => h) (v := ?_) (a' := ?_) (by rfl) ?_ (by assumption) ?_ ?_
      rotate_left 2
      · intro w hSw
        try dsimp only at hSw
        simp only [execOp, ssr.o21]
        go_simp
        try with_reducible rfl
      · simp only [ssr.o21, Act.put, List.setIfInBounds_toArray, List.set_cons_zero, List.set_cons_succ]
        rfl
      refine ssr.tk ssr.i22 ssr.f22 ssr.r22 ssr.l22 (fun _ _ _ h => h) (v := ?_) (a' := ?_) (by rfl) ?_ (by assumption) ?_ ?_
      rotate_left 2
      · intro w hSw
        try dsimp only at hSw
        simp only [execOp, ssr.o22]
        go_simp
        try with_reducible rfl
      · simp only [ssr.o22, Act.put, List.setIfInBounds_toArray, List.set_cons_zero, List.set_cons_succ]
        rfl
      refine ssr.tk ssr.i23 ssr.f23 ssr.r23 ssr.l23 (fun _ _ _ h => h) (v := ?_) (a' := ?_) (by rfl) ?_ (by assumption) ?_ ?_
      rotate_left 2
      · intro w hSw
        try dsimp only at hSw
        simp only [execOp, ssr.o23]
        go_simp
        try with_reducible rfl
      · simp only [ssr.o23, Act.put, List.setIfInBounds_toArray, List.set_cons_zero, List.set_cons_succ]
        rfl
      refine ssr.tk ssr.i25 ssr.f24 ssr.r24 ssr.l24 (fun _ _ _ h => h) (v := ?_) (a' := ?_) (by rfl) ?_ (by assumption) ?_ ?_
      rotate_left 2
      · intro w hSw
        try dsimp only at hSw
        simp only [execOp, ssr.o25]
        go_simp
        try with_reducible rfl
      · simp only [ssr.o25, Act.put, List.setIfInBounds_toArray, List.set_cons_zero, List.set_cons_succ]
        rfl
      refine ssr.cl ssr.i24 ssr.r25 ssr.l25 (by rfl) (fun K hK => ?_)
      unfold ssr.o24
      go_simp
      go_wp2_with (go_at_call 20; refine (Or_vw (HV0.out.step HB5.out) (HV1.out.step HB5.out) HH0.out HH1.out).mono ?_; rintro e y ⟨u7, rfl, s7, hb⟩; replace s1 := Sp.hid s1 hb; replace s2 := Sp.hid s2 hb; replace s3 := Sp.hid s3 hb; replace HB5 : Hid (Bl w _) := HB5.out.trans hb; replace KK : Hid (_ ∧ _ ∧ _) := ⟨at_bl hb KK.out.1, at_bl hb KK.out.2.1, at_bl hb KK.out.2.2⟩; clear hb)
      clear hHeld
      refine hK.out _ _ (by exact KK.out) (fun hHeld => ?_)
      clear hK K
      try simp only [Act.put, List.setIfInBounds_toArray, List.set_cons_zero, List.set_cons_succ]
      refine ssr.cl ssr.i26 ssr.r26 ssr.l26 (by rfl) (fun K hK => ?_)
      unfold ssr.o26
      go_simp
      go_wp2_with (go_at_call 18; refine (Same_sp s7.out s1.out (by decide) (by decide) (fun _ _ => Iff.rfl)).mono ?_; rintro e y ⟨rfl, hb⟩; clear s7; clear s1; replace s2 := Sp.hid s2 hb; replace s3 := Sp.hid s3 hb; replace HB5 : Hid (Bl w _) := HB5.out.trans hb; replace KK : Hid (_ ∧ _ ∧ _) := ⟨at_bl hb KK.out.1, at_bl hb KK.out.2.1, at_bl hb KK.out.2.2⟩; clear hb)
      clear hHeld
      refine hK.out _ _ (by exact KK.out) (fun hHeld => ?_)
      clear hK K
      try simp only [Act.put, List.setIfInBounds_toArray, List.set_cons_zero, List.set_cons_succ]
      refine ssr.tk ssr.i27 ssr.f27 ssr.r27 ssr.l27 (fun _ _ _ h => h) (v := ?_) (a' := ?_) (by rfl) ?_ (by assumption) ?_ ?_
      rotate_left 2
      · intro w hSw
        try dsimp only at hSw
        simp only [execOp, ssr.o27]
        go_simp
        try with_reducible rfl
      · simp only [ssr.o27, Act.put, List.setIfInBounds_toArray, List.set_cons_zero, List.set_cons_succ]
        rfl
      refine ssr.tk ssr.i28 ssr.f28 ssr.r28 ssr.l28 (fun _ _ _ h => h) (v := ?_) (a' := ?_) (by rfl) ?_ (by assumption) ?_ ?_
      rotate_left 2
      · intro w hSw
        try dsimp only at hSw
        simp only [execOp, ssr.o28]
        go_simp
        try with_reducible rfl
      · simp only [ssr.o28, Act.put, List.setIfInBounds_toArray, List.set_cons_zero, List.set_cons_succ]
        rfl
      refine ssr.tk ssr.i29 ssr.f29 ssr.r29 ssr.l29 (fun _ _ _ h => h) (v := ?_) (a' := ?_) (by rfl) ?_ (by assumption) ?_ ?_
      rotate_left 2
      · intro w hSw
        try dsimp only at hSw
        simp only [execOp, ssr.o29]
        go_simp
        try with_reducible rfl
      · simp only [ssr.o29, Act.put, List.setIfInBounds_toArray, List.set_cons_zero, List.set_cons_succ]
        rfl
      refine ssr.tk ssr.i30 ssr.f30 ssr.r30 ssr.l30 (fun _ _ _ h => h) (v := ?_) (a' := ?_) (by rfl) ?_ (by assumption) ?_ ?_
      rotate_left 2
      · intro w hSw
        try dsimp only at hSw
        simp only [execOp, ssr.o30]
        go_simp
        try with_reducible rfl
      · simp only [ssr.o30, Act.put, List.setIfInBounds_toArray, List.set_cons_zero, List.set_cons_succ]
        rfl
      refine ssr.tk ssr.i32 ssr.f31 ssr.r31 ssr.l31 (fun _ _ _ h => h) (v := ?_) (a' := ?_) (by rfl) ?_ (by assumption) ?_ ?_
      rotate_left 2
      · intro w hSw
        try dsimp only at hSw
        simp only [execOp, ssr.o32]
        go_simp
        try with_reducible rfl
      · simp only [ssr.o32, Act.put, List.setIfInBounds_toArray, List.set_cons_zero, List.set_cons_succ]
        rfl
      refine ssr.cl ssr.i31 ssr.r32 ssr.l32 (by rfl) (fun K hK => ?_)
      unfold ssr.o31
      go_simp
      go_wp2_with (go_at_call 21; refine (And_vw (vw_view (HV0.out.step HB5.out)) (vw_view (HV1.out.step HB5.out)) HLN0.out HLN1.out).mono ?_; rintro e y ⟨u8, rfl, s8, hb⟩; replace s2 := Sp.hid s2 hb; replace s3 := Sp.hid s3 hb; replace HB5 : Hid (Bl w _) := HB5.out.trans hb; replace KK : Hid (_ ∧ _ ∧ _) := ⟨at_bl hb KK.out.1, at_bl hb KK.out.2.1, at_bl hb KK.out.2.2⟩; clear hb)
      clear hHeld
      refine hK.out _ _ (by exact KK.out) (fun hHeld => ?_)
      clear hK K
      try simp only [Act.put, List.setIfInBounds_toArray, List.set_cons_zero, List.set_cons_succ]
      refine ssr.cl ssr.i33 ssr.r33 ssr.l33 (by rfl) (fun K hK => ?_)
      unfold ssr.o33
      go_simp
      go_wp2_with (go_at_call 18; refine (Same_sp s8.out s2.out (by decide) (by decide) (fun _ _ => Iff.rfl)).mono ?_; rintro e y ⟨rfl, hb⟩; clear s8; clear s2; replace s3 := Sp.hid s3 hb; replace HB5 : Hid (Bl w _) := HB5.out.trans hb; replace KK : Hid (_ ∧ _ ∧ _) := ⟨at_bl hb KK.out.1, at_bl hb KK.out.2.1, at_bl hb KK.out.2.2⟩; clear hb)
      clear hHeld
      refine hK.out _ _ (by exact KK.out) (fun hHeld => ?_)
      clear hK K
      try simp only [Act.put, List.setIfInBounds_toArray, List.set_cons_zero, List.set_cons_succ]
      refine ssr.tk ssr.i34 ssr.f34 ssr.r34 ssr.l34 (fun _ _ _ h => h) (v := ?_) (a' := ?_) (by rfl) ?_ (by assumption) ?_ ?_
      rotate_left 2
      · intro w hSw
        try dsimp only at hSw
        simp only [execOp, ssr.o34]
        go_simp
        try with_reducible rfl
      · simp only [ssr.o34, Act.put, List.setIfInBounds_toArray, List.set_cons_zero, List.set_cons_succ]
        rfl
      refine ssr.tk ssr.i35 ssr.f35 ssr.r35 ssr.l35 (fun _ _ _ h => h) (v := ?_) (a' := ?_) (by rfl) ?_ (by assumption) ?_ ?_
      rotate_left 2
      · intro w hSw
        try dsimp only at hSw
        simp only [execOp, ssr.o35]
        go_simp
        try with_reducible rfl
      · simp only [ssr.o35, Act.put, List.setIfInBounds_toArray, List.set_cons_zero, List.set_cons_succ]
        rfl
      refine ssr.tk ssr.i36 ssr.f36 ssr.r36 ssr.l36 (fun _ _ _ h => h) (v := ?_) (a' := ?_) (by rfl) ?_ (by assumption) ?_ ?_
      rotate_left 2
      · intro w hSw
        try dsimp only at hSw
        simp only [execOp, ssr.o36]
        go_simp
        try with_reducible rfl
      · simp only [ssr.o36, Act.put, List.setIfInBounds_toArray, List.set_cons_zero, List.set_cons_succ]
        rfl
      refine ssr.tk ssr.i37 ssr.f37 ssr.r37 ssr.l37 (fun _ _ _ h => h) (v := ?_) (a' := ?_) (by rfl) ?_ (by assumption) ?_ ?_
      rotate_left 2
      · intro w hSw
        try dsimp only at hSw
        simp only [execOp, ssr.o37]
        go_simp
        try with_reducible rfl
      · simp only [ssr.o37, Act.put, List.setIfInBounds_toArray, List.set_cons_zero, List.set_cons_succ]
        rfl
      refine ssr.tk ssr.i39 ssr.f38 ssr.r38 ssr.l38 (fun _ _ _ h => h) (v := ?_) (a' := ?_) (by rfl) ?_ (by assumption) ?_ ?_
      rotate_left 2
      · intro w hSw
        try dsimp only at hSw
        simp only [execOp, ssr.o39]
        go_simp
        try with_reducible rfl
      · simp only [ssr.o39, Act.put, List.setIfInBounds_toArray, List.set_cons_zero, List.set_cons_succ]
        rfl
      refine ssr.cl ssr.i38 ssr.r39 ssr.l39 (by rfl) (fun K hK => ?_)
      unfold ssr.o38
      go_simp
      go_wp2_with (go_at_call 22; refine (Not_vw (vw_view (HV0.out.step HB5.out)) a3 HLN0.out).mono ?_; rintro e y ⟨u9, rfl, s9, hb⟩; replace s3 := Sp.hid s3 hb; replace HB5 : Hid (Bl w _) := HB5.out.trans hb; replace KK : Hid (_ ∧ _ ∧ _) := ⟨at_bl hb KK.out.1, at_bl hb KK.out.2.1, at_bl hb KK.out.2.2⟩; clear hb)
      clear hHeld
      refine hK.out _ _ (by exact KK.out) (fun hHeld => ?_)
      clear hK K
      try simp only [Act.put, List.setIfInBounds_toArray, List.set_cons_zero, List.set_cons_succ]
      refine ssr.cl ssr.i40 ssr.r40 ssr.l40 (by rfl) (fun K hK => ?_)
      unfold ssr.o40
      go_simp
      go_wp2_with (go_at_call 18; refine (Same_sp s9.out s3.out (by decide) (by decide) (fun _ _ => Iff.rfl)).mono ?_; rintro e y ⟨rfl, hb⟩; clear s9; clear s3; replace HB5 : Hid (Bl w _) := HB5.out.trans hb; replace KK : Hid (_ ∧ _ ∧ _) := ⟨at_bl hb KK.out.1, at_bl hb KK.out.2.1, at_bl hb KK.out.2.2⟩; clear hb)
      clear hHeld
      refine hK.out _ _ (by exact KK.out) (fun hHeld => ?_)
      clear hK K
      try simp only [Act.put, List.setIfInBounds_toArray, List.set_cons_zero, List.set_cons_succ]
      refine ssr.tk ssr.i41 ssr.f41 ssr.r41 ssr.l41 (fun _ _ _ h => h) (v := ?_) (a' := ?_) (by rfl) ?_ (by assumption) ?_ ?_
      rotate_left 2
      · intro w hSw
        try dsimp only at hSw
        simp only [execOp, ssr.o41]
        go_simp
        try with_reducible rfl
      · simp only [ssr.o41, Act.put, List.setIfInBounds_toArray, List.set_cons_zero, List.set_cons_succ]
        rfl
      refine ssr.tk ssr.i42 ssr.f42 ssr.r42 ssr.l42 (fun _ _ _ h => h) (v := ?_) (a' := ?_) (by rfl) ?_ (by assumption) ?_ ?_
      rotate_left 2
      · intro w hSw
        try dsimp only at hSw
        simp only [execOp, ssr.o42]
        go_simp
        try with_reducible rfl
      · simp only [ssr.o42, Act.put, List.setIfInBounds_toArray, List.set_cons_zero, List.set_cons_succ]
        rfl
      refine ssr.tk ssr.i43 ssr.f43 ssr.r43 ssr.l43 (fun _ _ _ h => h) (v := ?_) (a' := ?_) (by rfl) ?_ (by assumption) ?_ ?_
      rotate_left 2
      · intro w hSw
        try dsimp only at hSw
        simp only [execOp, ssr.o43]
        go_simp
        try with_reducible rfl
      · simp only [ssr.o43, Act.put, List.setIfInBounds_toArray, List.set_cons_zero, List.set_cons_succ]
        rfl
      refine ssr.tk ssr.i45 ssr.f44 ssr.r44 ssr.l44 (fun _ _ _ h => h) (v := ?_) (a' := ?_) (by rfl) ?_ (by assumption) ?_ ?_
      rotate_left 2
      · intro w hSw
        try dsimp only at hSw
        simp only [execOp, ssr.o45]
        go_simp
        try with_reducible rfl
      · simp only [ssr.o45, Act.put, List.setIfInBounds_toArray, List.set_cons_zero, List.set_cons_succ]
        rfl
      refine ssr.cl ssr.i44 ssr.r45 ssr.l45 (by rfl) (fun K hK => ?_)
      unfold ssr.o44
      go_simp
      go_wp2_with (go_at_call 23; refine (Size_vw (vw_view (HV0.out.step HB5.out)) HF0.out HLN0.out HI.out).mono ?_; rw [← HZ'.out]; rintro e y ⟨rfl, hb⟩; replace HB5 : Hid (Bl w _) := HB5.out.trans hb; replace KK : Hid (_ ∧ _ ∧ _) := ⟨at_bl hb KK.out.1, at_bl hb KK.out.2.1, at_bl hb KK.out.2.2⟩; clear hb)
      clear hHeld
      refine hK.out _ _ (by exact KK.out) (fun hHeld => ?_)
      clear hK K
      try simp only [Act.put, List.setIfInBounds_toArray, List.set_cons_zero, List.set_cons_succ]
      refine ssr.tk ssr.i46 ssr.f46 ssr.r46 ssr.l46 (fun _ _ _ h => h) (v := ?_) (a' := ?_) (by rfl) ?_ (by assumption) ?_ ?_
      rotate_left 2
      · intro w hSw
        try dsimp only at hSw
        simp only [execOp, ssr.o46]
        go_simp
        try with_reducible rfl
      · simp only [ssr.o46, Act.put, List.setIfInBounds_toArray, List.set_cons_zero, List.set_cons_succ]
        rfl
      refine ssr.tk ssr.i47 ssr.f47 ssr.r47 ssr.l47 (fun _ _ _ h => h) (v := ?_) (a' := ?_) (by rfl) ?_ (by assumption) ?_ ?_
      rotate_left 2
      · intro w hSw
        try dsimp only at hSw
        simp only [execOp, ssr.o47]
        go_simp
        try with_reducible rfl
      · simp only [ssr.o47, Act.put, List.setIfInBounds_toArray, List.set_cons_zero, List.set_cons_succ]
        rfl
      refine ssr.tk ssr.i48 ssr.f48 ssr.r48 ssr.l48 (fun _ _ _ h => h) (v := ?_) (a' := ?_) (by rfl) ?_ (by assumption) ?_ ?_
      rotate_left 2
      · intro w hSw
        try dsimp only at hSw
        simp only [execOp, ssr.o48]
        go_simp
        try with_reducible rfl
      · simp only [ssr.o48, Act.put, List.setIfInBounds_toArray, List.set_cons_zero, List.set_cons_succ]
        rfl
      refine wpAnyH_done ssr.rdone ?_ _
      go_wp2
      go_ret
      exact ⟨rfl, HB5.out⟩

set_option maxRecDepth 100000 in
theorem lifted (os : Os) (started : os.Started) (H : Type) (enc : TypeId × Value → H) :
    ReturnsInHanded {} Try.checked os 3 .any (Rows.spansSetsSpec.pre6 enc Try.prog Try.f3 Rows.spansSetsRow.domain false) (Rows.spansSetsSpec.post enc Try.prog Try.f3 false true false false) := by
  refine returnsInHanded_of_change (C := Try.checked) own started (by kernel_rfl) Try.func3
    (ChangeSpec.witness6 (enc := enc) (C := Try.checked) false ⟨#[], #[.slice none 0 0, .slice none 0 0, .int .i64 0, .int .i64 0], []⟩ 8 (by kernel_rfl) (by kernel_rfl) (by kernel_rfl) (by kernel_rfl)) ?_
  intro W base args ds gs before hval0 hW hcnd _
  have hval : ∀ (j : Nat) t v, Try.f3.params[j]? = some t → args[j]? = some v → Value.okWide Try.prog W .any base t v := hval0
  have hW' := hW
  obtain ⟨p, q, hA0, hV, rfl, hfz, hnd⟩ := hW
  have hA : DataW.TrodAll enc Try.prog W 0 (fun _ => true) true Try.f3.params.toList args.toList ds p := hA0
  rw [Try.params3] at hA hval
  obtain ⟨v0, vs0, d0, ds0, p0, q0, hargs, rfl, rfl, h0, r0⟩ := trodAll_cons hA
  obtain ⟨v1, vs1, d1, ds1, p1, q1, rfl, rfl, rfl, h1, r1⟩ := trodAll_cons r0
  obtain ⟨v2, vs2, d2, ds2, p2, q2, rfl, rfl, rfl, h2, r2⟩ := trodAll_cons r1
  obtain ⟨v3, vs3, d3, ds3, p3, q3, rfl, rfl, rfl, h3, r3⟩ := trodAll_cons r2
  obtain ⟨rfl, rfl, rfl⟩ := trodAll_nil r3
  obtain rfl : args = #[v0, v1, v2, v3] := by cases args; simp_all
  obtain ⟨rfl, rfl⟩ := trodVars_none hV
  obtain ⟨a0, len0, cap0, rfl⟩ := okWide_slice Try.underlying22 (hval 0 22 v0 rfl rfl)
  have k0 := h0
  have lt0 : ∀ x ∈ p0, x.block < W.heap.size := by obtain ⟨m, hm⟩ := k0; exact DataW.trod_lt m _ _ _ hm
  obtain ⟨z0, w0⟩ : ∃ zs, sp.IsSp W a0 len0 cap0 zs := sp.sp_open h0
  obtain ⟨a1, len1, cap1, rfl⟩ := okWide_slice Try.underlying22 (hval 1 22 v1 rfl rfl)
  have k1 := h1
  have lt1 : ∀ x ∈ p1, x.block < W.heap.size := by obtain ⟨m, hm⟩ := k1; exact DataW.trod_lt m _ _ _ hm
  obtain ⟨z1, w1⟩ : ∃ zs, sp.IsSp W a1 len1 cap1 zs := sp.sp_open h1
  obtain ⟨a2, rfl, rfl, rfl, w2⟩ := open_int Try.underlying3 (hval 2 3 v2 rfl rfl) h2
  obtain ⟨a3, rfl, rfl, rfl, w3⟩ := open_int Try.underlying3 (hval 3 3 v3 rfl rfl) h3
  clear hA0 hval0
  refine (walk a0 len0 cap0 z0 a1 len1 cap1 z1 a2 a3 W w0 w1 w2 w3).mono fun e W' ⟨he, bel⟩ => ?_
  subst he
  exact ⟨_, rfl, _, _, _, [], _, [], hW', trodAll_mk1 (shut_bool Try.underlying4 _), (trodAll_cons_mk (Below.trod laidOut (by kernel_rfl) (of_decide_eq_true (by kernel_rfl)) k0 bel lt0) (trodAll_cons_mk (Below.trod laidOut (by kernel_rfl) (of_decide_eq_true (by kernel_rfl)) k1 bel lt1) (trodAll_cons_mk (shut_int Try.underlying3 w2) (trodAll_cons_mk (shut_int Try.underlying3 w3) trodAll_mk0)))), rfl, bel.frame _, fun h => by cases h⟩

theorem over : Rows.spansSetsRow.holds Try.pinned (OpenSpec.ofChange Rows.spansSetsSpec) :=
  OpenClaim.holds_of_wide 3 Try.f3 rfl rfl rfl rfl rfl rfl rfl ⟨rfl, rfl, rfl, rfl, rfl⟩ rfl rfl rfl rfl rfl (by kernel_rfl) Try.func3 (by kernel_rfl)
    (of_decide_eq_true (by kernel_rfl)) (by unfold Func.isWrapper; first | (rw [if_pos (by decide +kernel)]; kernel_rfl) | (rw [if_neg (by decide +kernel)]; exact ⟨rfl, rfl⟩))
    (fun os started H enc _ => lifted os started H enc)

end Go.Proofs.Ytfblmfjgbbeheaa.spansSets
namespace Go.Proofs.Ytfblmfjgbbeheaa
/-- The given statement. -/
theorem spansSets_holds : Rows.SpansSetsSaid := spansSets.over
#print axioms spansSets_holds
end Go.Proofs.Ytfblmfjgbbeheaa
