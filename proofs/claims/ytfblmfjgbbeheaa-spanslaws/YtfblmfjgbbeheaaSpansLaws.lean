/- SpansLaws: De Morgan's laws and the others', of places from 0 to n, and of how many there are: for every input. -/
import Derived.Test.YtfblmfjgbbeheaaRows
import Derived.WalkKit
import Derived.ProofKit
import Derived.OpenShut
import Derived.Test.YtfblmfjgbbeheaaSLr
import Derived.ShutString
import Derived.ChangeOld
import Derived.Below
namespace Go.Proofs.Ytfblmfjgbbeheaa.spansLaws
open Go.ChangeShapes Go.WideShapes Go.ChangeAt Go.RowKit
open Go.ChangeMaps (open_string shut_string)
set_option linter.unusedVariables false

theorem own : ownKnob Try.prog.godebug = none := by kernel_rfl
theorem laidOut : laidOutB Try.prog = true := by kernel_rfl

/-- WHAT THE WALK IS TOLD OF A SLICE OF INTEGERS THAT CAME IN: it is nil; or it leads to a row of 'cap' cells, the numbers 'zs' (the first 'len' are its elements, the rest its spare room), each fitting its kind. -/
def IsRow (k : IntKind) (w : World) (a : Option Addr) (len cap : Nat) (zs : List Int) : Prop :=
  (a = none ∧ len = 0 ∧ cap = 0 ∧ zs = []) ∨
  ∃ x, a = some x ∧ len ≤ cap ∧ cap ≤ maxLen ∧ zs.length = cap ∧ (∀ i, i < zs.length → w.cell? (x.add i) = some (.int k (zs.getD i 0))) ∧ ∀ n ∈ zs, (Lit.int k n).wf = true

open mem rows span sp
theorem few_at (p : Option Addr) (n c : Nat) (w : World) (hn : n ≤ 40) : Calls Try.prog 28 #[.slice p n c] w fun e w' => e = .returned (.bool true) ∧ w' = w := by
  have hz : (n : Int) ≤ 40 := by omega
  go_enter Try.func28, Try.ntmps28
  go_wp2
  go_ret
  exact ⟨rfl, rfl⟩
theorem few_no (p : Option Addr) (n c : Nat) (w : World) (hn : ¬ n ≤ 40) : Calls Try.prog 28 #[.slice p n c] w fun e w' => e = .returned (.bool false) ∧ w' = w := by
  have hz : ¬ ((n : Int) ≤ 40) := by omega
  go_enter Try.func28, Try.ntmps28
  go_wp2
  go_ret
  exact ⟨rfl, rfl⟩
theorem fz_bl {w w' : World} (h : Bl w w') {a : Addr} (ha : a.block < w.heap.size) : w'.frozen? a = w.frozen? a := by
  unfold World.frozen?
  rw [Below.block h _ ha]
theorem dm1 (a b n : Prop) : (n ∧ ¬ (a ∨ b)) ↔ ((n ∧ ¬ a) ∧ (n ∧ ¬ b)) := by by_cases n <;> by_cases a <;> by_cases b <;> simp [*]
theorem dm2 (a b n : Prop) : (n ∧ ¬ (a ∧ b)) ↔ ((n ∧ ¬ a) ∨ (n ∧ ¬ b)) := by by_cases n <;> by_cases a <;> by_cases b <;> simp [*]
theorem dn (a n : Prop) (h : a → n) : (n ∧ ¬ (n ∧ ¬ a)) ↔ a := by
  by_cases ha : a
  · have := h ha
    simp [*]
  · by_cases n <;> simp [*]
theorem di (a b c : Prop) : (a ∧ (b ∨ c)) ↔ ((a ∧ b) ∨ (a ∧ c)) := by by_cases a <;> by_cases b <;> by_cases c <;> simp [*]
theorem ab (a b : Prop) : (a ∨ (a ∧ b)) ↔ a := by by_cases a <;> by_cases b <;> simp [*]
set_option maxHeartbeats 8000000 in
set_option maxRecDepth 100000 in
theorem walk (a0 : Option Addr) (len0 cap0 : Nat) (z0 : List (Int × Int)) (a1 : Option Addr) (len1 cap1 : Nat) (z1 : List (Int × Int)) (a2 : Option Addr) (len2 cap2 : Nat) (z2 : List (Int × Int)) (a3 : Int) (w : World) (w0 : sp.IsSp w a0 len0 cap0 z0) (w1 : sp.IsSp w a1 len1 cap1 z1) (w2 : sp.IsSp w a2 len2 cap2 z2) (w3 : (Lit.int .i64 a3).wf = true) :
    Calls Try.prog 6 #[.slice a0 len0 cap0, .slice a1 len1 cap1, .slice a2 len2 cap2, .int .i64 a3] w fun e w' => e = .returned (.bool true) ∧ Below w.heap.size w w' := by
  obtain ⟨hl0, hin0, _, _⟩ := w0
  obtain ⟨hl1, hin1, _, _⟩ := w1
  obtain ⟨hl2, hin2, _, _⟩ := w2
  have HV0 : Hid (View w (.slice a0 len0 cap0) z0) := ⟨_, _, by rw [hl0], hin0⟩
  have HV1 : Hid (View w (.slice a1 len1 cap1) z1) := ⟨_, _, by rw [hl1], hin1⟩
  have HV2 : Hid (View w (.slice a2 len2 cap2) z2) := ⟨_, _, by rw [hl2], hin2⟩
  have HL0 : Hid (z0.length = len0) := hl0
  have HL1 : Hid (z1.length = len1) := hl1
  have HL2 : Hid (z2.length = len2) := hl2
  clear hl0 hl1 hl2 hin0 hin1 hin2 w3
  by_cases h0 : len0 ≤ 40
  rotate_left
  · have cf := fun w => few_no a0 len0 cap0 w h0
    clear h0
    go_enter Try.func6, Try.ntmps6
    go_wp2_with (first
      | (go_at_call 27; refine (spanned_at _).mono ?_; rintro e v1 ⟨rfl, hg1⟩)
      | (go_at_call_of 28 (Value.slice a0 len0 cap0); refine (cf _).mono ?_; rintro e v2 ⟨rfl, rfl⟩))
    go_ret
    exact ⟨rfl, ((Bl.refl _).alloc _).trans hg1⟩
  by_cases h1 : len1 ≤ 40
  rotate_left
  · have cf := fun w => few_no a1 len1 cap1 w h1
    have cf0 := fun w => few_at a0 len0 cap0 w h0
    clear h1 h0
    go_enter Try.func6, Try.ntmps6
    go_wp2_with (first
      | (go_at_call 27; refine (spanned_at _).mono ?_; rintro e v1 ⟨rfl, hg1⟩)
      | (go_at_call_of 28 (Value.slice a0 len0 cap0); refine (cf0 _).mono ?_; rintro e v2 ⟨rfl, rfl⟩)
      | (go_at_call_of 28 (Value.slice a1 len1 cap1); refine (cf _).mono ?_; rintro e v2 ⟨rfl, rfl⟩))
    go_ret
    exact ⟨rfl, ((Bl.refl _).alloc _).trans hg1⟩
  by_cases h2 : len2 ≤ 40
  rotate_left
  · have cf := fun w => few_no a2 len2 cap2 w h2
    have cf0 := fun w => few_at a0 len0 cap0 w h0
    have cf1 := fun w => few_at a1 len1 cap1 w h1
    clear h2 h0 h1
    go_enter Try.func6, Try.ntmps6
    go_wp2_with (first
      | (go_at_call 27; refine (spanned_at _).mono ?_; rintro e v1 ⟨rfl, hg1⟩)
      | (go_at_call_of 28 (Value.slice a0 len0 cap0); refine (cf0 _).mono ?_; rintro e v2 ⟨rfl, rfl⟩)
      | (go_at_call_of 28 (Value.slice a1 len1 cap1); refine (cf1 _).mono ?_; rintro e v2 ⟨rfl, rfl⟩)
      | (go_at_call_of 28 (Value.slice a2 len2 cap2); refine (cf _).mono ?_; rintro e v2 ⟨rfl, rfl⟩))
    go_ret
    exact ⟨rfl, ((Bl.refl _).alloc _).trans hg1⟩
  have cf0 := fun w => few_at a0 len0 cap0 w h0
  have cf1 := fun w => few_at a1 len1 cap1 w h1
  have cf2 := fun w => few_at a2 len2 cap2 w h2
  obtain ⟨N, hN⟩ : ∃ N, N = pk a3 1073741824 := ⟨_, rfl⟩
  have hNl : N < 1073741824 := by rw [hN]; exact pk_lt a3 1073741824 (by decide)
  have cP := fun w => pick_at a3 1073741824 w (by decide) (by decide)
  rw [← hN] at cP
  clear hN
  have HH0 : Hid (len0 ≤ 40) := h0
  have HH1 : Hid (len1 ≤ 40) := h1
  have HH2 : Hid (len2 ≤ 40) := h2
  clear h0 h1 h2
  obtain ⟨B, hB⟩ : ∃ B, B = w.heap.size := ⟨_, rfl⟩
  have HB : Hid (B = w.heap.size) := hB
  go_enter Try.func6, Try.ntmps6
  go_wp2_with (first
    | (go_at_call 27; refine (spanned_at _).mono ?_; rintro e v1 ⟨rfl, hg1⟩; rw [← hB]; clear hB; have hc1 : v1.cell? ⟨B, 0, none⟩ = some (.int .i64 a3) := at_bl hg1 (by rw [HB.out]; simp); have hf1 : v1.frozen? ⟨B, 0, none⟩ = false := (by rw [fz_bl hg1 (by rw [HB.out]; simp), HB.out]; simp); have hg2 : Bl w v1 := ((Bl.refl _).alloc _).trans hg1; clear hg1)
    | (go_at_call_of 28 (Value.slice a0 len0 cap0); refine (cf0 _).mono ?_; rintro e v2 ⟨rfl, rfl⟩)
    | (go_at_call_of 28 (Value.slice a1 len1 cap1); refine (cf1 _).mono ?_; rintro e v2 ⟨rfl, rfl⟩)
    | (go_at_call_of 28 (Value.slice a2 len2 cap2); refine (cf2 _).mono ?_; rintro e v2 ⟨rfl, rfl⟩)
    | (go_at_call 30; refine (cP _).mono ?_; rintro e v3 ⟨rfl, rfl⟩))
  obtain ⟨x0, hx0⟩ : ∃ x, x = (v3.setCell { block := B, off := 0 } (Value.int IntKind.i64 (N : Int))).alloc (Obj.cells #[Value.int IntKind.i64 0, Value.int IntKind.i64 (N : Int)] 28) := ⟨_, rfl⟩
  rw [← hx0]
  have hB : Bl w x0 := by rw [hx0]; exact (hg2.setCell (by rw [HB.out]; exact Nat.le_refl _) _).alloc _
  have hc : Hid (x0.cell? ⟨B, 0, none⟩ = some (.int .i64 (N : Int))) := by
    rw [hx0]
    exact at_bl ((Bl.refl _).alloc _) (World.cell?_setCell_same' _ _ _ (by rw [hc1]; rfl))
  have hall : Hid (View x0 (.slice (some ⟨v3.heap.size, 0, none⟩) 1 1) [(0, (N : Int))]) := by
    rw [hx0]
    have h := lit_view (v3.setCell { block := B, off := 0 } (Value.int IntKind.i64 (N : Int))) [(0, (N : Int))] 28 1
    have h2 : View ((v3.setCell { block := B, off := 0 } (Value.int IntKind.i64 (N : Int))).alloc (Obj.cells #[Value.int IntKind.i64 0, Value.int IntKind.i64 (N : Int)] 28)) (.slice (some ⟨(v3.setCell { block := B, off := 0 } (Value.int IntKind.i64 (N : Int))).heap.size, 0, none⟩) 1 1) [(0, (N : Int))] := h
    rwa [show (v3.setCell { block := B, off := 0 } (Value.int IntKind.i64 (N : Int))).heap.size = v3.heap.size by simp] at h2
  clear hx0 hc1 hf1 hg2 cf0 cf1 cf2 cP
  generalize Value.slice (some { block := v3.heap.size, off := 0 }) 1 1 = va at hall ⊢
  refine (And_few (HV0.out.step hB) hall.out (by rw [HL0.out]; exact HH0.out)).mono ?_
  rintro e x ⟨ua, fa, rfl, sa, Ga, hb⟩
  replace hB := hB.trans hb
  replace hc : Hid (_ = _) := at_bl hb hc.out
  replace hall : Hid (View _ _ _) := hall.out.step hb
  clear hb
  go_wp2_with (fail)
  refine (And_few (HV1.out.step hB) hall.out (by rw [HL1.out]; exact HH1.out)).mono ?_
  rintro e x ⟨ub, fb, rfl, sb, Gb, hb⟩
  replace sa := Sp.hid sa hb
  replace hB := hB.trans hb
  replace hc : Hid (_ = _) := at_bl hb hc.out
  replace hall : Hid (View _ _ _) := hall.out.step hb
  clear hb
  go_wp2_with (fail)
  refine (And_few (HV2.out.step hB) hall.out (by rw [HL2.out]; exact HH2.out)).mono ?_
  rintro e x ⟨uc, fc, rfl, sc, Gc, hb⟩
  replace sa := Sp.hid sa hb
  replace sb := Sp.hid sb hb
  replace hB := hB.trans hb
  replace hc : Hid (_ = _) := at_bl hb hc.out
  replace hall : Hid (View _ _ _) := hall.out.step hb
  clear hb
  clear hall HV0 HV1 HV2
  have e1 := cn_both fa fb N
  have e2 := cn_not fa N
  have HE1 : Hid (cn fa N + cn fb N = cn (fun q => fa q ∨ fb q) N + cn (fun q => fa q ∧ fb q) N) := e1
  have HE2 : Hid (cn fa N + cn (fun q => q < (N : Int) ∧ ¬ fa q) N = N) := e2
  clear e1 e2
  obtain ⟨ka, hka⟩ : ∃ k, k = cn fa N := ⟨_, rfl⟩
  obtain ⟨kb, hkb⟩ : ∃ k, k = cn fb N := ⟨_, rfl⟩
  obtain ⟨ko, hko⟩ : ∃ k, k = cn (fun q => fa q ∨ fb q) N := ⟨_, rfl⟩
  obtain ⟨kx, hkx⟩ : ∃ k, k = cn (fun q => fa q ∧ fb q) N := ⟨_, rfl⟩
  obtain ⟨kn, hkn⟩ : ∃ k, k = cn (fun q => q < (N : Int) ∧ ¬ fa q) N := ⟨_, rfl⟩
  have la : ka ≤ N := by rw [hka]; exact cn_le _ _
  have lb : kb ≤ N := by rw [hkb]; exact cn_le _ _
  have lo : ko ≤ N := by rw [hko]; exact cn_le _ _
  have lx : kx ≤ N := by rw [hkx]; exact cn_le _ _
  have ln : kn ≤ N := by rw [hkn]; exact cn_le _ _
  have hs1 : (ka : Int) + (kb : Int) = (ko : Int) + (kx : Int) := by have h := HE1.out; rw [← hka, ← hkb, ← hko, ← hkx] at h; omega
  have hs2 : (ka : Int) + (kn : Int) = (N : Int) := by have h := HE2.out; rw [← hka, ← hkn] at h; omega
  have HS1 : Hid ((ka : Int) + (kb : Int) = (ko : Int) + (kx : Int)) := hs1
  have HS2 : Hid ((ka : Int) + (kn : Int) = (N : Int)) := hs2
  have HKA : Hid (ka = cn fa N) := hka
  have HKB : Hid (kb = cn fb N) := hkb
  have HKO : Hid (ko = cn (fun q => fa q ∨ fb q) N) := hko
  have HKX : Hid (kx = cn (fun q => fa q ∧ fb q) N) := hkx
  have HKN : Hid (kn = cn (fun q => q < (N : Int) ∧ ¬ fa q) N) := hkn
  have hw1 : IntKind.i64.wrap ((ka : Int) + (kb : Int)) = (ka : Int) + (kb : Int) := by rw [IntKind.wrap_i64]; omega
  have hw2 : IntKind.i64.wrap ((ko : Int) + (kx : Int)) = (ko : Int) + (kx : Int) := by rw [IntKind.wrap_i64]; omega
  have hw3 : IntKind.i64.wrap ((ka : Int) + (kn : Int)) = (ka : Int) + (kn : Int) := by rw [IntKind.wrap_i64]; omega
  have hq1 : ((ka : Int) + (kb : Int) == (ko : Int) + (kx : Int)) = true := by rw [beq_iff_eq]; exact hs1
  have hq2 : ((ka : Int) + (kn : Int) == (N : Int)) = true := by rw [beq_iff_eq]; exact hs2
  clear hka hkb hko hkx hkn hs1 hs2 HE1 HE2
  go_wp2_with (fail)
  have hcw := hc.out
  change Code.wp _ (Code.region 10 slr.ops10 true) _ _ _
  refine slr.start (S := fun w' => w'.cell? ⟨B, 0, none⟩ = some (.int .i64 (N : Int))) (by kernel_rfl) (by exact hcw) (fun hHeld => ?_)
  clear hcw
  replace hc : Hid (_ = _) := at_bl ((Bl.refl _).drew) hc.out
  replace sa := Sp.hid sa ((Bl.refl _).drew)
  replace sb := Sp.hid sb ((Bl.refl _).drew)
  replace sc := Sp.hid sc ((Bl.refl _).drew)
  replace hB := hB.drew
  refine slr.tk slr.i0 slr.f0 slr.r0 slr.l0 (fun _ _ _ h => h) (v := ?_) (a' := ?_) (by rfl) ?_ (by assumption) ?_ ?_
  rotate_left 2
  · intro w hSw
    try dsimp only at hSw
    simp only [execOp, slr.o0]
    go_simp
    try with_reducible rfl
  · simp only [slr.o0, Act.put, List.setIfInBounds_toArray, List.set_cons_zero, List.set_cons_succ]
    rfl
  refine slr.tk slr.i1 slr.f1 slr.r1 slr.l1 (fun _ _ _ h => h) (v := ?_) (a' := ?_) (by rfl) ?_ (by assumption) ?_ ?_
  rotate_left 2
  · intro w hSw
    try dsimp only at hSw
    simp only [execOp, slr.o1]
    go_simp
    try with_reducible rfl
  · simp only [slr.o1, Act.put, List.setIfInBounds_toArray, List.set_cons_zero, List.set_cons_succ]
    rfl
  refine slr.tk slr.i2 slr.f2 slr.r2 slr.l2 (fun _ _ _ h => h) (v := ?_) (a' := ?_) (by rfl) ?_ (by assumption) ?_ ?_
  rotate_left 2
  · intro w hSw
    try dsimp only at hSw
    simp only [execOp, slr.o2]
    go_simp
    try with_reducible rfl
  · simp only [slr.o2, Act.put, List.setIfInBounds_toArray, List.set_cons_zero, List.set_cons_succ]
    rfl
  refine slr.tk slr.i3 slr.f3 slr.r3 slr.l3 (fun _ _ _ h => h) (v := ?_) (a' := ?_) (by rfl) ?_ (by assumption) ?_ ?_
  rotate_left 2
  · intro w hSw
    try dsimp only at hSw
    simp only [execOp, slr.o3]
    go_simp
    try with_reducible rfl
  · simp only [slr.o3, Act.put, List.setIfInBounds_toArray, List.set_cons_zero, List.set_cons_succ]
    rfl
  refine slr.tk slr.i6 slr.f4 slr.r4 slr.l4 (fun _ _ _ h => h) (v := ?_) (a' := ?_) (by rfl) ?_ (by assumption) ?_ ?_
  rotate_left 2
  · intro w hSw
    try dsimp only at hSw
    simp only [execOp, slr.o6]
    go_simp
    try with_reducible rfl
  · simp only [slr.o6, Act.put, List.setIfInBounds_toArray, List.set_cons_zero, List.set_cons_succ]
    rfl
  refine slr.tk slr.i7 slr.f5 slr.r5 slr.l5 (fun _ _ _ h => h) (v := ?_) (a' := ?_) (by rfl) ?_ (by assumption) ?_ ?_
  rotate_left 2
  · intro w hSw
    try dsimp only at hSw
    simp only [execOp, slr.o7]
    go_simp
    try with_reducible rfl
  · simp only [slr.o7, Act.put, List.setIfInBounds_toArray, List.set_cons_zero, List.set_cons_succ]
    rfl
  refine slr.tk slr.i9 slr.f6 slr.r6 slr.l6 (fun _ _ _ h => h) (v := ?_) (a' := ?_) (by rfl) ?_ (by assumption) ?_ ?_
  rotate_left 2
  · intro w hSw
    try dsimp only at hSw
    simp only [execOp, slr.o9]
    go_simp
    try with_reducible rfl
  · simp only [slr.o9, Act.put, List.setIfInBounds_toArray, List.set_cons_zero, List.set_cons_succ]
    rfl
  refine slr.tk slr.i10 slr.f7 slr.r7 slr.l7 (fun _ _ _ h => h) (v := ?_) (a' := ?_) (by rfl) ?_ (by assumption) ?_ ?_
  rotate_left 2
  · intro w hSw
    try dsimp only at hSw
    simp only [execOp, slr.o10]
    go_simp
    try with_reducible rfl
  · simp only [slr.o10, Act.put, List.setIfInBounds_toArray, List.set_cons_zero, List.set_cons_succ]
    rfl
  refine slr.cl slr.i4 slr.r8 slr.l8 (by rfl) (fun K hK => ?_)
  unfold slr.o4
  go_simp
  go_wp2_with (go_at_call 20; refine (Or_sp sa.out sb.out (by decide)).mono ?_; rintro e x ⟨u1, rfl, s1, hb⟩; replace sa := Sp.hid sa hb; replace sb := Sp.hid sb hb; replace sc := Sp.hid sc hb; replace hB := hB.trans hb; replace hc : Hid (_ = _) := at_bl hb hc.out; clear hb)
  clear hHeld
  refine hK.out _ _ (by exact hc.out) (fun hHeld => ?_)
  clear hK K
  try simp only [Act.put, List.setIfInBounds_toArray, List.set_cons_zero, List.set_cons_succ]
  refine slr.cl slr.i5 slr.r9 slr.l9 (by rfl) (fun K hK => ?_)
  unfold slr.o5
  go_simp
  go_wp2_with (go_at_call 31; refine (not_sp s1.out (by decide) (N : Int) B hc.out).mono ?_; rintro e x ⟨u2, rfl, s2, hb⟩; clear s1; replace sa := Sp.hid sa hb; replace sb := Sp.hid sb hb; replace sc := Sp.hid sc hb; replace hB := hB.trans hb; replace hc : Hid (_ = _) := at_bl hb hc.out; clear hb)
  clear hHeld
  refine hK.out _ _ (by exact hc.out) (fun hHeld => ?_)
  clear hK K
  try simp only [Act.put, List.setIfInBounds_toArray, List.set_cons_zero, List.set_cons_succ]
  refine slr.cl slr.i8 slr.r10 slr.l10 (by rfl) (fun K hK => ?_)
  unfold slr.o8
  go_simp
  go_wp2_with (go_at_call 31; refine (not_sp sa.out (by decide) (N : Int) B hc.out).mono ?_; rintro e x ⟨u3, rfl, s3, hb⟩; replace sa := Sp.hid sa hb; replace sb := Sp.hid sb hb; replace sc := Sp.hid sc hb; replace s2 := Sp.hid s2 hb; replace hB := hB.trans hb; replace hc : Hid (_ = _) := at_bl hb hc.out; clear hb)
  clear hHeld
  refine hK.out _ _ (by exact hc.out) (fun hHeld => ?_)
  clear hK K
  try simp only [Act.put, List.setIfInBounds_toArray, List.set_cons_zero, List.set_cons_succ]
  refine slr.cl slr.i11 slr.r11 slr.l11 (by rfl) (fun K hK => ?_)
  unfold slr.o11
  go_simp
  go_wp2_with (go_at_call 31; refine (not_sp sb.out (by decide) (N : Int) B hc.out).mono ?_; rintro e x ⟨u4, rfl, s4, hb⟩; replace sa := Sp.hid sa hb; replace sb := Sp.hid sb hb; replace sc := Sp.hid sc hb; replace s2 := Sp.hid s2 hb; replace s3 := Sp.hid s3 hb; replace hB := hB.trans hb; replace hc : Hid (_ = _) := at_bl hb hc.out; clear hb)
  clear hHeld
  refine hK.out _ _ (by exact hc.out) (fun hHeld => ?_)
  clear hK K
  try simp only [Act.put, List.setIfInBounds_toArray, List.set_cons_zero, List.set_cons_succ]
  refine slr.cl slr.i12 slr.r12 slr.l12 (by rfl) (fun K hK => ?_)
  unfold slr.o12
  go_simp
  go_wp2_with (go_at_call 21; refine (And_sp s3.out s4.out (by decide) (by decide)).mono ?_; rintro e x ⟨u5, rfl, s5, hb⟩; clear s3; clear s4; replace sa := Sp.hid sa hb; replace sb := Sp.hid sb hb; replace sc := Sp.hid sc hb; replace s2 := Sp.hid s2 hb; replace hB := hB.trans hb; replace hc : Hid (_ = _) := at_bl hb hc.out; clear hb)
  clear hHeld
  refine hK.out _ _ (by exact hc.out) (fun hHeld => ?_)
  clear hK K
  try simp only [Act.put, List.setIfInBounds_toArray, List.set_cons_zero, List.set_cons_succ]
  refine slr.cl slr.i13 slr.r13 slr.l13 (by rfl) (fun K hK => ?_)
  unfold slr.o13
  go_simp
  go_wp2_with (go_at_call 29; refine (Equal_sp s2.out s5.out (by decide) (by decide) (fun q hq => dm1 _ _ _)).mono ?_; rintro e x ⟨rfl, hb⟩; clear s2; clear s5; replace sa := Sp.hid sa hb; replace sb := Sp.hid sb hb; replace sc := Sp.hid sc hb; replace hB := hB.trans hb; replace hc : Hid (_ = _) := at_bl hb hc.out; clear hb)
  clear hHeld
  refine hK.out _ _ (by exact hc.out) (fun hHeld => ?_)
  clear hK K
  try simp only [Act.put, List.setIfInBounds_toArray, List.set_cons_zero, List.set_cons_succ]
  refine slr.tk slr.i14 slr.f14 slr.r14 slr.l14 (fun _ _ _ h => h) (v := ?_) (a' := ?_) (by rfl) ?_ (by assumption) ?_ ?_
  rotate_left 2
  · intro w hSw
    try dsimp only at hSw
    simp only [execOp, slr.o14]
    go_simp
    try with_reducible rfl
  · simp only [slr.o14, Act.put, List.setIfInBounds_toArray, List.set_cons_zero, List.set_cons_succ]
    rfl
  refine slr.tk slr.i15 slr.f15 slr.r15 slr.l15 (fun _ _ _ h => h) (v := ?_) (a' := ?_) (by rfl) ?_ (by assumption) ?_ ?_
  rotate_left 2
  · intro w hSw
    try dsimp only at hSw
    simp only [execOp, slr.o15]
    go_simp
    try with_reducible rfl
  · simp only [slr.o15, Act.put, List.setIfInBounds_toArray, List.set_cons_zero, List.set_cons_succ]
    rfl
  refine slr.tk slr.i16 slr.f16 slr.r16 slr.l16 (fun _ _ _ h => h) (v := ?_) (a' := ?_) (by rfl) ?_ (by assumption) ?_ ?_
  rotate_left 2
  · intro w hSw
    try dsimp only at hSw
    simp only [execOp, slr.o16]
    go_simp
    try with_reducible rfl
  · simp only [slr.o16, Act.put, List.setIfInBounds_toArray, List.set_cons_zero, List.set_cons_succ]
    rfl
  refine slr.tk slr.i17 slr.f17 slr.r17 slr.l17 (fun _ _ _ h => h) (v := ?_) (a' := ?_) (by rfl) ?_ (by assumption) ?_ ?_
  rotate_left 2
  · intro w hSw
    try dsimp only at hSw
    simp only [execOp, slr.o17]
    go_simp
    try with_reducible rfl
  · simp only [slr.o17, Act.put, List.setIfInBounds_toArray, List.set_cons_zero, List.set_cons_succ]
    rfl
  refine slr.tk slr.i18 slr.f18 slr.r18 slr.l18 (fun _ _ _ h => h) (v := ?_) (a' := ?_) (by rfl) ?_ (by assumption) ?_ ?_
  rotate_left 2
  · intro w hSw
    try dsimp only at hSw
    simp only [execOp, slr.o18]
    go_simp
    try with_reducible rfl
  · simp only [slr.o18, Act.put, List.setIfInBounds_toArray, List.set_cons_zero, List.set_cons_succ]
    rfl
  refine slr.tk slr.i21 slr.f19 slr.r19 slr.l19 (fun _ _ _ h => h) (v := ?_) (a' := ?_) (by rfl) ?_ (by assumption) ?_ ?_
  rotate_left 2
  · intro w hSw
    try dsimp only at hSw
    simp only [execOp, slr.o21]
    go_simp
    try with_reducible rfl
  · simp only [slr.o21, Act.put, List.setIfInBounds_toArray, List.set_cons_zero, List.set_cons_succ]
    rfl
  refine slr.tk slr.i22 slr.f20 slr.r20 slr.l20 (fun _ _ _ h => h) (v := ?_) (a' := ?_) (by rfl) ?_ (by assumption) ?_ ?_
  rotate_left 2
  · intro w hSw
    try dsimp only at hSw
    simp only [execOp, slr.o22]
    go_simp
    try with_reducible rfl
  · simp only [slr.o22, Act.put, List.setIfInBounds_toArray, List.set_cons_zero, List.set_cons_succ]
    rfl
  refine slr.tk slr.i24 slr.f21 slr.r21 slr.l21 (fun _ _ _ h => h) (v := ?_) (a' := ?_) (by rfl) ?_ (by assumption) ?_ ?_
  rotate_left 2
  · intro w hSw
    try dsimp only at hSw
    simp only [execOp, slr.o24]
    go_simp
    try with_reducible rfl
  · simp only [slr.o24, Act.put, List.setIfInBounds_toArray, List.set_cons_zero, List.set_cons_succ]
    rfl
  refine slr.tk slr.i25 slr.f22 slr.r22 slr.l22 (fun _ _ _ h => h) (v := ?_) (a' := ?_) (by rfl) ?_ (by assumption) ?_ ?_
  rotate_left 2
  · intro w hSw
    try dsimp only at hSw
    simp only [execOp, slr.o25]
    go_simp
    try with_reducible rfl
  · simp only [slr.o25, Act.put, List.setIfInBounds_toArray, List.set_cons_zero, List.set_cons_succ]
    rfl
  refine slr.cl slr.i19 slr.r23 slr.l23 (by rfl) (fun K hK => ?_)
  unfold slr.o19
  go_simp
  go_wp2_with (go_at_call 21; refine (And_sp sa.out sb.out (by decide) (by decide)).mono ?_; rintro e x ⟨u6, rfl, s6, hb⟩; replace sa := Sp.hid sa hb; replace sb := Sp.hid sb hb; replace sc := Sp.hid sc hb; replace hB := hB.trans hb; replace hc : Hid (_ = _) := at_bl hb hc.out; clear hb)
  clear hHeld
  refine hK.out _ _ (by exact hc.out) (fun hHeld => ?_)
  clear hK K
  try simp only [Act.put, List.setIfInBounds_toArray, List.set_cons_zero, List.set_cons_succ]
  refine slr.cl slr.i20 slr.r24 slr.l24 (by rfl) (fun K hK => ?_)
  unfold slr.o20
  go_simp
  go_wp2_with (go_at_call 31; refine (not_sp s6.out (by decide) (N : Int) B hc.out).mono ?_; rintro e x ⟨u7, rfl, s7, hb⟩; clear s6; replace sa := Sp.hid sa hb; replace sb := Sp.hid sb hb; replace sc := Sp.hid sc hb; replace hB := hB.trans hb; replace hc : Hid (_ = _) := at_bl hb hc.out; clear hb)
  clear hHeld
  refine hK.out _ _ (by exact hc.out) (fun hHeld => ?_)
  clear hK K
  try simp only [Act.put, List.setIfInBounds_toArray, List.set_cons_zero, List.set_cons_succ]
  refine slr.cl slr.i23 slr.r25 slr.l25 (by rfl) (fun K hK => ?_)
  unfold slr.o23
  go_simp
  go_wp2_with (go_at_call 31; refine (not_sp sa.out (by decide) (N : Int) B hc.out).mono ?_; rintro e x ⟨u8, rfl, s8, hb⟩; replace sa := Sp.hid sa hb; replace sb := Sp.hid sb hb; replace sc := Sp.hid sc hb; replace s7 := Sp.hid s7 hb; replace hB := hB.trans hb; replace hc : Hid (_ = _) := at_bl hb hc.out; clear hb)
  clear hHeld
  refine hK.out _ _ (by exact hc.out) (fun hHeld => ?_)
  clear hK K
  try simp only [Act.put, List.setIfInBounds_toArray, List.set_cons_zero, List.set_cons_succ]
  refine slr.cl slr.i26 slr.r26 slr.l26 (by rfl) (fun K hK => ?_)
  unfold slr.o26
  go_simp
  go_wp2_with (go_at_call 31; refine (not_sp sb.out (by decide) (N : Int) B hc.out).mono ?_; rintro e x ⟨u9, rfl, s9, hb⟩; replace sa := Sp.hid sa hb; replace sb := Sp.hid sb hb; replace sc := Sp.hid sc hb; replace s7 := Sp.hid s7 hb; replace s8 := Sp.hid s8 hb; replace hB := hB.trans hb; replace hc : Hid (_ = _) := at_bl hb hc.out; clear hb)
  clear hHeld
  refine hK.out _ _ (by exact hc.out) (fun hHeld => ?_)
  clear hK K
  try simp only [Act.put, List.setIfInBounds_toArray, List.set_cons_zero, List.set_cons_succ]
  refine slr.cl slr.i27 slr.r27 slr.l27 (by rfl) (fun K hK => ?_)
  unfold slr.o27
  go_simp
  go_wp2_with (go_at_call 20; refine (Or_sp s8.out s9.out (by decide)).mono ?_; rintro e x ⟨u10, rfl, s10, hb⟩; clear s8; clear s9; replace sa := Sp.hid sa hb; replace sb := Sp.hid sb hb; replace sc := Sp.hid sc hb; replace s7 := Sp.hid s7 hb; replace hB := hB.trans hb; replace hc : Hid (_ = _) := at_bl hb hc.out; clear hb)
  clear hHeld
  refine hK.out _ _ (by exact hc.out) (fun hHeld => ?_)
  clear hK K
  try simp only [Act.put, List.setIfInBounds_toArray, List.set_cons_zero, List.set_cons_succ]
  refine slr.cl slr.i28 slr.r28 slr.l28 (by rfl) (fun K hK => ?_)
  unfold slr.o28
  go_simp
  go_wp2_with (go_at_call 29; refine (Equal_sp s7.out s10.out (by decide) (by decide) (fun q hq => dm2 _ _ _)).mono ?_; rintro e x ⟨rfl, hb⟩; clear s7; clear s10; replace sa := Sp.hid sa hb; replace sb := Sp.hid sb hb; replace sc := Sp.hid sc hb; replace hB := hB.trans hb; replace hc : Hid (_ = _) := at_bl hb hc.out; clear hb)
  clear hHeld
  refine hK.out _ _ (by exact hc.out) (fun hHeld => ?_)
  clear hK K
  try simp only [Act.put, List.setIfInBounds_toArray, List.set_cons_zero, List.set_cons_succ]
  refine slr.tk slr.i29 slr.f29 slr.r29 slr.l29 (fun _ _ _ h => h) (v := ?_) (a' := ?_) (by rfl) ?_ (by assumption) ?_ ?_
  rotate_left 2
  · intro w hSw
    try dsimp only at hSw
    simp only [execOp, slr.o29]
    go_simp
    try with_reducible rfl
  · simp only [slr.o29, Act.put, List.setIfInBounds_toArray, List.set_cons_zero, List.set_cons_succ]
    rfl
  refine slr.tk slr.i30 slr.f30 slr.r30 slr.l30 (fun _ _ _ h => h) (v := ?_) (a' := ?_) (by rfl) ?_ (by assumption) ?_ ?_
  rotate_left 2
  · intro w hSw
    try dsimp only at hSw
    simp only [execOp, slr.o30]
    go_simp
    try with_reducible rfl
  · simp only [slr.o30, Act.put, List.setIfInBounds_toArray, List.set_cons_zero, List.set_cons_succ]
    rfl
  refine slr.tk slr.i31 slr.f31 slr.r31 slr.l31 (fun _ _ _ h => h) (v := ?_) (a' := ?_) (by rfl) ?_ (by assumption) ?_ ?_
  rotate_left 2
  · intro w hSw
    try dsimp only at hSw
    simp only [execOp, slr.o31]
    go_simp
    try with_reducible rfl
  · simp only [slr.o31, Act.put, List.setIfInBounds_toArray, List.set_cons_zero, List.set_cons_succ]
    rfl
  refine slr.tk slr.i32 slr.f32 slr.r32 slr.l32 (fun _ _ _ h => h) (v := ?_) (a' := ?_) (by rfl) ?_ (by assumption) ?_ ?_
  rotate_left 2
  · intro w hSw
    try dsimp only at hSw
    simp only [execOp, slr.o32]
    go_simp
    try with_reducible rfl
  · simp only [slr.o32, Act.put, List.setIfInBounds_toArray, List.set_cons_zero, List.set_cons_succ]
    rfl
  refine slr.tk slr.i33 slr.f33 slr.r33 slr.l33 (fun _ _ _ h => h) (v := ?_) (a' := ?_) (by rfl) ?_ (by assumption) ?_ ?_
  rotate_left 2
  · intro w hSw
    try dsimp only at hSw
    simp only [execOp, slr.o33]
    go_simp
    try with_reducible rfl
  · simp only [slr.o33, Act.put, List.setIfInBounds_toArray, List.set_cons_zero, List.set_cons_succ]
    rfl
  refine slr.tk slr.i34 slr.f34 slr.r34 slr.l34 (fun _ _ _ h => h) (v := ?_) (a' := ?_) (by rfl) ?_ (by assumption) ?_ ?_
  rotate_left 2
  · intro w hSw
    try dsimp only at hSw
    simp only [execOp, slr.o34]
    go_simp
    try with_reducible rfl
  · simp only [slr.o34, Act.put, List.setIfInBounds_toArray, List.set_cons_zero, List.set_cons_succ]
    rfl
  refine slr.tk slr.i37 slr.f35 slr.r35 slr.l35 (fun _ _ _ h => h) (v := ?_) (a' := ?_) (by rfl) ?_ (by assumption) ?_ ?_
  rotate_left 2
  · intro w hSw
    try dsimp only at hSw
    simp only [execOp, slr.o37]
    go_simp
    try with_reducible rfl
  · simp only [slr.o37, Act.put, List.setIfInBounds_toArray, List.set_cons_zero, List.set_cons_succ]
    rfl
  refine slr.cl slr.i35 slr.r36 slr.l36 (by rfl) (fun K hK => ?_)
  unfold slr.o35
  go_simp
  go_wp2_with (go_at_call 31; refine (not_sp sa.out (by decide) (N : Int) B hc.out).mono ?_; rintro e x ⟨u11, rfl, s11, hb⟩; replace sa := Sp.hid sa hb; replace sb := Sp.hid sb hb; replace sc := Sp.hid sc hb; replace hB := hB.trans hb; replace hc : Hid (_ = _) := at_bl hb hc.out; clear hb)
  clear hHeld
  refine hK.out _ _ (by exact hc.out) (fun hHeld => ?_)
  clear hK K
  try simp only [Act.put, List.setIfInBounds_toArray, List.set_cons_zero, List.set_cons_succ]
  refine slr.cl slr.i36 slr.r37 slr.l37 (by rfl) (fun K hK => ?_)
  unfold slr.o36
  go_simp
  go_wp2_with (go_at_call 31; refine (not_sp s11.out (by decide) (N : Int) B hc.out).mono ?_; rintro e x ⟨u12, rfl, s12, hb⟩; clear s11; replace sa := Sp.hid sa hb; replace sb := Sp.hid sb hb; replace sc := Sp.hid sc hb; replace hB := hB.trans hb; replace hc : Hid (_ = _) := at_bl hb hc.out; clear hb)
  clear hHeld
  refine hK.out _ _ (by exact hc.out) (fun hHeld => ?_)
  clear hK K
  try simp only [Act.put, List.setIfInBounds_toArray, List.set_cons_zero, List.set_cons_succ]
  refine slr.cl slr.i38 slr.r38 slr.l38 (by rfl) (fun K hK => ?_)
  unfold slr.o38
  go_simp
  go_wp2_with (go_at_call 29; refine (Equal_sp s12.out sa.out (by decide) (by decide) (fun q hq => dn _ _ (Ga.out q))).mono ?_; rintro e x ⟨rfl, hb⟩; clear s12; replace sa := Sp.hid sa hb; replace sb := Sp.hid sb hb; replace sc := Sp.hid sc hb; replace hB := hB.trans hb; replace hc : Hid (_ = _) := at_bl hb hc.out; clear hb)
  clear hHeld
  refine hK.out _ _ (by exact hc.out) (fun hHeld => ?_)
  clear hK K
  try simp only [Act.put, List.setIfInBounds_toArray, List.set_cons_zero, List.set_cons_succ]
  refine slr.tk slr.i39 slr.f39 slr.r39 slr.l39 (fun _ _ _ h => h) (v := ?_) (a' := ?_) (by rfl) ?_ (by assumption) ?_ ?_
  rotate_left 2
  · intro w hSw
    try dsimp only at hSw
    simp only [execOp, slr.o39]
    go_simp
    try with_reducible rfl
  · simp only [slr.o39, Act.put, List.setIfInBounds_toArray, List.set_cons_zero, List.set_cons_succ]
    rfl
  refine slr.tk slr.i40 slr.f40 slr.r40 slr.l40 (fun _ _ _ h => h) (v := ?_) (a' := ?_) (by rfl) ?_ (by assumption) ?_ ?_
  rotate_left 2
  · intro w hSw
    try dsimp only at hSw
    simp only [execOp, slr.o40]
    go_simp
    try with_reducible rfl
  · simp only [slr.o40, Act.put, List.setIfInBounds_toArray, List.set_cons_zero, List.set_cons_succ]
    rfl
  refine slr.tk slr.i41 slr.f41 slr.r41 slr.l41 (fun _ _ _ h => h) (v := ?_) (a' := ?_) (by rfl) ?_ (by assumption) ?_ ?_
  rotate_left 2
  · intro w hSw
    try dsimp only at hSw
    simp only [execOp, slr.o41]
    go_simp
    try with_reducible rfl
  · simp only [slr.o41, Act.put, List.setIfInBounds_toArray, List.set_cons_zero, List.set_cons_succ]
    rfl
  refine slr.tk slr.i42 slr.f42 slr.r42 slr.l42 (fun _ _ _ h => h) (v := ?_) (a' := ?_) (by rfl) ?_ (by assumption) ?_ ?_
  rotate_left 2
  · intro w hSw
    try dsimp only at hSw
    simp only [execOp, slr.o42]
    go_simp
    try with_reducible rfl
  · simp only [slr.o42, Act.put, List.setIfInBounds_toArray, List.set_cons_zero, List.set_cons_succ]
    rfl
  refine slr.tk slr.i43 slr.f43 slr.r43 slr.l43 (fun _ _ _ h => h) (v := ?_) (a' := ?_) (by rfl) ?_ (by assumption) ?_ ?_
  rotate_left 2
  · intro w hSw
    try dsimp only at hSw
    simp only [execOp, slr.o43]
    go_simp
    try with_reducible rfl
  · simp only [slr.o43, Act.put, List.setIfInBounds_toArray, List.set_cons_zero, List.set_cons_succ]
    rfl
  refine slr.tk slr.i45 slr.f44 slr.r44 slr.l44 (fun _ _ _ h => h) (v := ?_) (a' := ?_) (by rfl) ?_ (by assumption) ?_ ?_
  rotate_left 2
  · intro w hSw
    try dsimp only at hSw
    simp only [execOp, slr.o45]
    go_simp
    try with_reducible rfl
  · simp only [slr.o45, Act.put, List.setIfInBounds_toArray, List.set_cons_zero, List.set_cons_succ]
    rfl
  refine slr.tk slr.i46 slr.f45 slr.r45 slr.l45 (fun _ _ _ h => h) (v := ?_) (a' := ?_) (by rfl) ?_ (by assumption) ?_ ?_
  rotate_left 2
  · intro w hSw
    try dsimp only at hSw
    simp only [execOp, slr.o46]
    go_simp
    try with_reducible rfl
  · simp only [slr.o46, Act.put, List.setIfInBounds_toArray, List.set_cons_zero, List.set_cons_succ]
    rfl
  refine slr.cl slr.i44 slr.r46 slr.l46 (by rfl) (fun K hK => ?_)
  unfold slr.o44
  go_simp
  go_wp2_with (go_at_call 20; refine (Or_sp sa.out sb.out (by decide)).mono ?_; rintro e x ⟨u13, rfl, s13, hb⟩; replace sa := Sp.hid sa hb; replace sb := Sp.hid sb hb; replace sc := Sp.hid sc hb; replace hB := hB.trans hb; replace hc : Hid (_ = _) := at_bl hb hc.out; clear hb)
  clear hHeld
  refine hK.out _ _ (by exact hc.out) (fun hHeld => ?_)
  clear hK K
  try simp only [Act.put, List.setIfInBounds_toArray, List.set_cons_zero, List.set_cons_succ]
  refine slr.cl slr.i47 slr.r47 slr.l47 (by rfl) (fun K hK => ?_)
  unfold slr.o47
  go_simp
  go_wp2_with (go_at_call 20; refine (Or_sp sb.out sa.out (by decide)).mono ?_; rintro e x ⟨u14, rfl, s14, hb⟩; replace sa := Sp.hid sa hb; replace sb := Sp.hid sb hb; replace sc := Sp.hid sc hb; replace s13 := Sp.hid s13 hb; replace hB := hB.trans hb; replace hc : Hid (_ = _) := at_bl hb hc.out; clear hb)
  clear hHeld
  refine hK.out _ _ (by exact hc.out) (fun hHeld => ?_)
  clear hK K
  try simp only [Act.put, List.setIfInBounds_toArray, List.set_cons_zero, List.set_cons_succ]
  refine slr.cl slr.i48 slr.r48 slr.l48 (by rfl) (fun K hK => ?_)
  unfold slr.o48
  go_simp
  go_wp2_with (go_at_call 29; refine (Equal_sp s13.out s14.out (by decide) (by decide) (fun q hq => or_comm)).mono ?_; rintro e x ⟨rfl, hb⟩; clear s13; clear s14; replace sa := Sp.hid sa hb; replace sb := Sp.hid sb hb; replace sc := Sp.hid sc hb; replace hB := hB.trans hb; replace hc : Hid (_ = _) := at_bl hb hc.out; clear hb)
  clear hHeld
  refine hK.out _ _ (by exact hc.out) (fun hHeld => ?_)
  clear hK K
  try simp only [Act.put, List.setIfInBounds_toArray, List.set_cons_zero, List.set_cons_succ]
  refine slr.tk slr.i49 slr.f49 slr.r49 slr.l49 (fun _ _ _ h => h) (v := ?_) (a' := ?_) (by rfl) ?_ (by assumption) ?_ ?_
  rotate_left 2
  · intro w hSw
    try dsimp only at hSw
    simp only [execOp, slr.o49]
    go_simp
    try with_reducible rfl
  · simp only [slr.o49, Act.put, List.setIfInBounds_toArray, List.set_cons_zero, List.set_cons_succ]
    rfl
  refine slr.tk slr.i50 slr.f50 slr.r50 slr.l50 (fun _ _ _ h => h) (v := ?_) (a' := ?_) (by rfl) ?_ (by assumption) ?_ ?_
  rotate_left 2
  · intro w hSw
    try dsimp only at hSw
    simp only [execOp, slr.o50]
    go_simp
    try with_reducible rfl
  · simp only [slr.o50, Act.put, List.setIfInBounds_toArray, List.set_cons_zero, List.set_cons_succ]
    rfl
  refine slr.tk slr.i51 slr.f51 slr.r51 slr.l51 (fun _ _ _ h => h) (v := ?_) (a' := ?_) (by rfl) ?_ (by assumption) ?_ ?_
  rotate_left 2
  · intro w hSw
    try dsimp only at hSw
    simp only [execOp, slr.o51]
    go_simp
    try with_reducible rfl
  · simp only [slr.o51, Act.put, List.setIfInBounds_toArray, List.set_cons_zero, List.set_cons_succ]
    rfl
  refine slr.tk slr.i52 slr.f52 slr.r52 slr.l52 (fun _ _ _ h => h) (v := ?_) (a' := ?_) (by rfl) ?_ (by assumption) ?_ ?_
  rotate_left 2
  · intro w hSw
    try dsimp only at hSw
    simp only [execOp, slr.o52]
    go_simp
    try with_reducible rfl
  · simp only [slr.o52, Act.put, List.setIfInBounds_toArray, List.set_cons_zero, List.set_cons_succ]
    rfl
  refine slr.tk slr.i53 slr.f53 slr.r53 slr.l53 (fun _ _ _ h => h) (v := ?_) (a' := ?_) (by rfl) ?_ (by assumption) ?_ ?_
  rotate_left 2
  · intro w hSw
    try dsimp only at hSw
    simp only [execOp, slr.o53]
    go_simp
    try with_reducible rfl
  · simp only [slr.o53, Act.put, List.setIfInBounds_toArray, List.set_cons_zero, List.set_cons_succ]
    rfl
  refine slr.tk slr.i54 slr.f54 slr.r54 slr.l54 (fun _ _ _ h => h) (v := ?_) (a' := ?_) (by rfl) ?_ (by assumption) ?_ ?_
  rotate_left 2
  · intro w hSw
    try dsimp only at hSw
    simp only [execOp, slr.o54]
    go_simp
    try with_reducible rfl
  · simp only [slr.o54, Act.put, List.setIfInBounds_toArray, List.set_cons_zero, List.set_cons_succ]
    rfl
  refine slr.tk slr.i57 slr.f55 slr.r55 slr.l55 (fun _ _ _ h => h) (v := ?_) (a' := ?_) (by rfl) ?_ (by assumption) ?_ ?_
  rotate_left 2
  · intro w hSw
    try dsimp only at hSw
    simp only [execOp, slr.o57]
    go_simp
    try with_reducible rfl
  · simp only [slr.o57, Act.put, List.setIfInBounds_toArray, List.set_cons_zero, List.set_cons_succ]
    rfl
  refine slr.tk slr.i58 slr.f56 slr.r56 slr.l56 (fun _ _ _ h => h) (v := ?_) (a' := ?_) (by rfl) ?_ (by assumption) ?_ ?_
  rotate_left 2
  · intro w hSw
    try dsimp only at hSw
    simp only [execOp, slr.o58]
    go_simp
    try with_reducible rfl
  · simp only [slr.o58, Act.put, List.setIfInBounds_toArray, List.set_cons_zero, List.set_cons_succ]
    rfl
  refine slr.tk slr.i60 slr.f57 slr.r57 slr.l57 (fun _ _ _ h => h) (v := ?_) (a' := ?_) (by rfl) ?_ (by assumption) ?_ ?_
  rotate_left 2
  · intro w hSw
    try dsimp only at hSw
    simp only [execOp, slr.o60]
    go_simp
    try with_reducible rfl
  · simp only [slr.o60, Act.put, List.setIfInBounds_toArray, List.set_cons_zero, List.set_cons_succ]
    rfl
  refine slr.tk slr.i61 slr.f58 slr.r58 slr.l58 (fun _ _ _ h => h) (v := ?_) (a' := ?_) (by rfl) ?_ (by assumption) ?_ ?_
  rotate_left 2
  · intro w hSw
    try dsimp only at hSw
    simp only [execOp, slr.o61]
    go_simp
    try with_reducible rfl
  · simp only [slr.o61, Act.put, List.setIfInBounds_toArray, List.set_cons_zero, List.set_cons_succ]
    rfl
  refine slr.cl slr.i55 slr.r59 slr.l59 (by rfl) (fun K hK => ?_)
  unfold slr.o55
  go_simp
  go_wp2_with (go_at_call 20; refine (Or_sp sb.out sc.out (by decide)).mono ?_; rintro e x ⟨u15, rfl, s15, hb⟩; replace sa := Sp.hid sa hb; replace sb := Sp.hid sb hb; replace sc := Sp.hid sc hb; replace hB := hB.trans hb; replace hc : Hid (_ = _) := at_bl hb hc.out; clear hb)
  clear hHeld
  refine hK.out _ _ (by exact hc.out) (fun hHeld => ?_)
  clear hK K
  try simp only [Act.put, List.setIfInBounds_toArray, List.set_cons_zero, List.set_cons_succ]
  refine slr.cl slr.i56 slr.r60 slr.l60 (by rfl) (fun K hK => ?_)
  unfold slr.o56
  go_simp
  go_wp2_with (go_at_call 21; refine (And_sp sa.out s15.out (by decide) (by decide)).mono ?_; rintro e x ⟨u16, rfl, s16, hb⟩; clear s15; replace sa := Sp.hid sa hb; replace sb := Sp.hid sb hb; replace sc := Sp.hid sc hb; replace hB := hB.trans hb; replace hc : Hid (_ = _) := at_bl hb hc.out; clear hb)
  clear hHeld
  refine hK.out _ _ (by exact hc.out) (fun hHeld => ?_)
  clear hK K
  try simp only [Act.put, List.setIfInBounds_toArray, List.set_cons_zero, List.set_cons_succ]
  refine slr.cl slr.i59 slr.r61 slr.l61 (by rfl) (fun K hK => ?_)
  unfold slr.o59
  go_simp
  go_wp2_with (go_at_call 21; refine (And_sp sa.out sb.out (by decide) (by decide)).mono ?_; rintro e x ⟨u17, rfl, s17, hb⟩; replace sa := Sp.hid sa hb; replace sb := Sp.hid sb hb; replace sc := Sp.hid sc hb; replace s16 := Sp.hid s16 hb; replace hB := hB.trans hb; replace hc : Hid (_ = _) := at_bl hb hc.out; clear hb)
  clear hHeld
  refine hK.out _ _ (by exact hc.out) (fun hHeld => ?_)
  clear hK K
  try simp only [Act.put, List.setIfInBounds_toArray, List.set_cons_zero, List.set_cons_succ]
  refine slr.cl slr.i62 slr.r62 slr.l62 (by rfl) (fun K hK => ?_)
  unfold slr.o62
  go_simp
  go_wp2_with (go_at_call 21; refine (And_sp sa.out sc.out (by decide) (by decide)).mono ?_; rintro e x ⟨u18, rfl, s18, hb⟩; replace sa := Sp.hid sa hb; replace sb := Sp.hid sb hb; replace sc := Sp.hid sc hb; replace s16 := Sp.hid s16 hb; replace s17 := Sp.hid s17 hb; replace hB := hB.trans hb; replace hc : Hid (_ = _) := at_bl hb hc.out; clear hb)
  clear hHeld
  refine hK.out _ _ (by exact hc.out) (fun hHeld => ?_)
  clear hK K
  try simp only [Act.put, List.setIfInBounds_toArray, List.set_cons_zero, List.set_cons_succ]
  refine slr.cl slr.i63 slr.r63 slr.l63 (by rfl) (fun K hK => ?_)
  unfold slr.o63
  go_simp
  go_wp2_with (go_at_call 20; refine (Or_sp s17.out s18.out (by decide)).mono ?_; rintro e x ⟨u19, rfl, s19, hb⟩; clear s17; clear s18; replace sa := Sp.hid sa hb; replace sb := Sp.hid sb hb; replace sc := Sp.hid sc hb; replace s16 := Sp.hid s16 hb; replace hB := hB.trans hb; replace hc : Hid (_ = _) := at_bl hb hc.out; clear hb)
  clear hHeld
  refine hK.out _ _ (by exact hc.out) (fun hHeld => ?_)
  clear hK K
  try simp only [Act.put, List.setIfInBounds_toArray, List.set_cons_zero, List.set_cons_succ]
  refine slr.cl slr.i64 slr.r64 slr.l64 (by rfl) (fun K hK => ?_)
  unfold slr.o64
  go_simp
  go_wp2_with (go_at_call 29; refine (Equal_sp s16.out s19.out (by decide) (by decide) (fun q hq => di _ _ _)).mono ?_; rintro e x ⟨rfl, hb⟩; clear s16; clear s19; replace sa := Sp.hid sa hb; replace sb := Sp.hid sb hb; replace sc := Sp.hid sc hb; replace hB := hB.trans hb; replace hc : Hid (_ = _) := at_bl hb hc.out; clear hb)
  clear hHeld
  refine hK.out _ _ (by exact hc.out) (fun hHeld => ?_)
  clear hK K
  try simp only [Act.put, List.setIfInBounds_toArray, List.set_cons_zero, List.set_cons_succ]
  refine slr.tk slr.i65 slr.f65 slr.r65 slr.l65 (fun _ _ _ h => h) (v := ?_) (a' := ?_) (by rfl) ?_ (by assumption) ?_ ?_
  rotate_left 2
  · intro w hSw
    try dsimp only at hSw
    simp only [execOp, slr.o65]
    go_simp
    try with_reducible rfl
  · simp only [slr.o65, Act.put, List.setIfInBounds_toArray, List.set_cons_zero, List.set_cons_succ]
    rfl
  refine slr.tk slr.i66 slr.f66 slr.r66 slr.l66 (fun _ _ _ h => h) (v := ?_) (a' := ?_) (by rfl) ?_ (by assumption) ?_ ?_
  rotate_left 2
  · intro w hSw
    try dsimp only at hSw
    simp only [execOp, slr.o66]
    go_simp
    try with_reducible rfl
  · simp only [slr.o66, Act.put, List.setIfInBounds_toArray, List.set_cons_zero, List.set_cons_succ]
    rfl
  refine slr.tk slr.i67 slr.f67 slr.r67 slr.l67 (fun _ _ _ h => h) (v := ?_) (a' := ?_) (by rfl) ?_ (by assumption) ?_ ?_
  rotate_left 2
  · intro w hSw
    try dsimp only at hSw
    simp only [execOp, slr.o67]
    go_simp
    try with_reducible rfl
  · simp only [slr.o67, Act.put, List.setIfInBounds_toArray, List.set_cons_zero, List.set_cons_succ]
    rfl
  refine slr.tk slr.i68 slr.f68 slr.r68 slr.l68 (fun _ _ _ h => h) (v := ?_) (a' := ?_) (by rfl) ?_ (by assumption) ?_ ?_
  rotate_left 2
  · intro w hSw
    try dsimp only at hSw
    simp only [execOp, slr.o68]
    go_simp
    try with_reducible rfl
  · simp only [slr.o68, Act.put, List.setIfInBounds_toArray, List.set_cons_zero, List.set_cons_succ]
    rfl
  refine slr.tk slr.i69 slr.f69 slr.r69 slr.l69 (fun _ _ _ h => h) (v := ?_) (a' := ?_) (by rfl) ?_ (by assumption) ?_ ?_
  rotate_left 2
  · intro w hSw
    try dsimp only at hSw
    simp only [execOp, slr.o69]
    go_simp
    try with_reducible rfl
  · simp only [slr.o69, Act.put, List.setIfInBounds_toArray, List.set_cons_zero, List.set_cons_succ]
    rfl
  refine slr.tk slr.i70 slr.f70 slr.r70 slr.l70 (fun _ _ _ h => h) (v := ?_) (a' := ?_) (by rfl) ?_ (by assumption) ?_ ?_
  rotate_left 2
  · intro w hSw
    try dsimp only at hSw
    simp only [execOp, slr.o70]
    go_simp
    try with_reducible rfl
  · simp only [slr.o70, Act.put, List.setIfInBounds_toArray, List.set_cons_zero, List.set_cons_succ]
    rfl
  refine slr.tk slr.i73 slr.f71 slr.r71 slr.l71 (fun _ _ _ h => h) (v := ?_) (a' := ?_) (by rfl) ?_ (by assumption) ?_ ?_
  rotate_left 2
  · intro w hSw
    try dsimp only at hSw
    simp only [execOp, slr.o73]
    go_simp
    try with_reducible rfl
  · simp only [slr.o73, Act.put, List.setIfInBounds_toArray, List.set_cons_zero, List.set_cons_succ]
    rfl
  refine slr.cl slr.i71 slr.r72 slr.l72 (by rfl) (fun K hK => ?_)
  unfold slr.o71
  go_simp
  go_wp2_with (go_at_call 21; refine (And_sp sa.out sb.out (by decide) (by decide)).mono ?_; rintro e x ⟨u20, rfl, s20, hb⟩; replace sa := Sp.hid sa hb; replace sb := Sp.hid sb hb; replace sc := Sp.hid sc hb; replace hB := hB.trans hb; replace hc : Hid (_ = _) := at_bl hb hc.out; clear hb)
  clear hHeld
  refine hK.out _ _ (by exact hc.out) (fun hHeld => ?_)
  clear hK K
  try simp only [Act.put, List.setIfInBounds_toArray, List.set_cons_zero, List.set_cons_succ]
  refine slr.cl slr.i72 slr.r73 slr.l73 (by rfl) (fun K hK => ?_)
  unfold slr.o72
  go_simp
  go_wp2_with (go_at_call 20; refine (Or_sp sa.out s20.out (by decide)).mono ?_; rintro e x ⟨u21, rfl, s21, hb⟩; clear s20; replace sa := Sp.hid sa hb; replace sb := Sp.hid sb hb; replace sc := Sp.hid sc hb; replace hB := hB.trans hb; replace hc : Hid (_ = _) := at_bl hb hc.out; clear hb)
  clear hHeld
  refine hK.out _ _ (by exact hc.out) (fun hHeld => ?_)
  clear hK K
  try simp only [Act.put, List.setIfInBounds_toArray, List.set_cons_zero, List.set_cons_succ]
  refine slr.cl slr.i74 slr.r74 slr.l74 (by rfl) (fun K hK => ?_)
  unfold slr.o74
  go_simp
  go_wp2_with (go_at_call 19; refine (Of_sp sa.out (by decide)).mono ?_; rintro e x ⟨u22, rfl, s22, hb⟩; replace sa := Sp.hid sa hb; replace sb := Sp.hid sb hb; replace sc := Sp.hid sc hb; replace s21 := Sp.hid s21 hb; replace hB := hB.trans hb; replace hc : Hid (_ = _) := at_bl hb hc.out; clear hb)
  clear hHeld
  refine hK.out _ _ (by exact hc.out) (fun hHeld => ?_)
  clear hK K
  try simp only [Act.put, List.setIfInBounds_toArray, List.set_cons_zero, List.set_cons_succ]
  refine slr.cl slr.i75 slr.r75 slr.l75 (by rfl) (fun K hK => ?_)
  unfold slr.o75
  go_simp
  go_wp2_with (go_at_call 29; refine (Equal_sp s21.out s22.out (by decide) (by decide) (fun q hq => ab _ _)).mono ?_; rintro e x ⟨rfl, hb⟩; clear s21; clear s22; replace sa := Sp.hid sa hb; replace sb := Sp.hid sb hb; replace sc := Sp.hid sc hb; replace hB := hB.trans hb; replace hc : Hid (_ = _) := at_bl hb hc.out; clear hb)
  clear hHeld
  refine hK.out _ _ (by exact hc.out) (fun hHeld => ?_)
  clear hK K
  try simp only [Act.put, List.setIfInBounds_toArray, List.set_cons_zero, List.set_cons_succ]
  refine slr.tk slr.i76 slr.f76 slr.r76 slr.l76 (fun _ _ _ h => h) (v := ?_) (a' := ?_) (by rfl) ?_ (by assumption) ?_ ?_
  rotate_left 2
  · intro w hSw
    try dsimp only at hSw
    simp only [execOp, slr.o76]
    go_simp
    try with_reducible rfl
  · simp only [slr.o76, Act.put, List.setIfInBounds_toArray, List.set_cons_zero, List.set_cons_succ]
    rfl
  refine slr.tk slr.i77 slr.f77 slr.r77 slr.l77 (fun _ _ _ h => h) (v := ?_) (a' := ?_) (by rfl) ?_ (by assumption) ?_ ?_
  rotate_left 2
  · intro w hSw
    try dsimp only at hSw
    simp only [execOp, slr.o77]
    go_simp
    try with_reducible rfl
  · simp only [slr.o77, Act.put, List.setIfInBounds_toArray, List.set_cons_zero, List.set_cons_succ]
    rfl
  refine slr.tk slr.i78 slr.f78 slr.r78 slr.l78 (fun _ _ _ h => h) (v := ?_) (a' := ?_) (by rfl) ?_ (by assumption) ?_ ?_
  rotate_left 2
  · intro w hSw
    try dsimp only at hSw
    simp only [execOp, slr.o78]
    go_simp
    try with_reducible rfl
  · simp only [slr.o78, Act.put, List.setIfInBounds_toArray, List.set_cons_zero, List.set_cons_succ]
    rfl
  refine slr.tk slr.i80 slr.f79 slr.r79 slr.l79 (fun _ _ _ h => h) (v := ?_) (a' := ?_) (by rfl) ?_ (by assumption) ?_ ?_
  rotate_left 2
  · intro w hSw
    try dsimp only at hSw
    simp only [execOp, slr.o80]
    go_simp
    try with_reducible rfl
  · simp only [slr.o80, Act.put, List.setIfInBounds_toArray, List.set_cons_zero, List.set_cons_succ]
    rfl
  refine slr.tk slr.i83 slr.f80 slr.r80 slr.l80 (fun _ _ _ h => h) (v := ?_) (a' := ?_) (by rfl) ?_ (by assumption) ?_ ?_
  rotate_left 2
  · intro w hSw
    try dsimp only at hSw
    simp only [execOp, slr.o83]
    go_simp
    try with_reducible rfl
  · simp only [slr.o83, Act.put, List.setIfInBounds_toArray, List.set_cons_zero, List.set_cons_succ]
    rfl
  refine slr.tk slr.i84 slr.f81 slr.r81 slr.l81 (fun _ _ _ h => h) (v := ?_) (a' := ?_) (by rfl) ?_ (by assumption) ?_ ?_
  rotate_left 2
  · intro w hSw
    try dsimp only at hSw
    simp only [execOp, slr.o84]
    go_simp
    try with_reducible rfl
  · simp only [slr.o84, Act.put, List.setIfInBounds_toArray, List.set_cons_zero, List.set_cons_succ]
    rfl
  refine slr.tk slr.i87 slr.f82 slr.r82 slr.l82 (fun _ _ _ h => h) (v := ?_) (a' := ?_) (by rfl) ?_ (by assumption) ?_ ?_
  rotate_left 2
  · intro w hSw
    try dsimp only at hSw
    simp only [execOp, slr.o87]
    go_simp
    try with_reducible rfl
  · simp only [slr.o87, Act.put, List.setIfInBounds_toArray, List.set_cons_zero, List.set_cons_succ]
    rfl
  refine slr.tk slr.i88 slr.f83 slr.r83 slr.l83 (fun _ _ _ h => h) (v := ?_) (a' := ?_) (by rfl) ?_ (by assumption) ?_ ?_
  rotate_left 2
  · intro w hSw
    try dsimp only at hSw
    simp only [execOp, slr.o88]
    go_simp
    try with_reducible rfl
  · simp only [slr.o88, Act.put, List.setIfInBounds_toArray, List.set_cons_zero, List.set_cons_succ]
    rfl
  refine slr.cl slr.i79 slr.r84 slr.l84 (by rfl) (fun K hK => ?_)
  unfold slr.o79
  go_simp
  go_wp2_with (go_at_call 23; refine (Size_sp sa.out (by decide) N (fun q hq => Ga.out q hq) (by have := Nat.le_of_lt hNl; omega)).mono ?_; rw [← HKA.out]; rintro e x ⟨rfl, hb⟩; replace sa := Sp.hid sa hb; replace sb := Sp.hid sb hb; replace sc := Sp.hid sc hb; replace hB := hB.trans hb; replace hc : Hid (_ = _) := at_bl hb hc.out; clear hb)
  clear hHeld
  refine hK.out _ _ (by exact hc.out) (fun hHeld => ?_)
  clear hK K
  try simp only [Act.put, List.setIfInBounds_toArray, List.set_cons_zero, List.set_cons_succ]
  refine slr.cl slr.i81 slr.r85 slr.l85 (by rfl) (fun K hK => ?_)
  unfold slr.o81
  go_simp
  go_wp2_with (go_at_call 23; refine (Size_sp sb.out (by decide) N (fun q hq => Gb.out q hq) (by have := Nat.le_of_lt hNl; omega)).mono ?_; rw [← HKB.out]; rintro e x ⟨rfl, hb⟩; replace sa := Sp.hid sa hb; replace sb := Sp.hid sb hb; replace sc := Sp.hid sc hb; replace hB := hB.trans hb; replace hc : Hid (_ = _) := at_bl hb hc.out; clear hb)
  clear hHeld
  refine hK.out _ _ (by exact hc.out) (fun hHeld => ?_)
  clear hK K
  try simp only [Act.put, List.setIfInBounds_toArray, List.set_cons_zero, List.set_cons_succ]
  refine slr.tk slr.i82 slr.f86 slr.r86 slr.l86 (fun _ _ _ h => h) (v := ?_) (a' := ?_) (by rfl) ?_ (by assumption) ?_ ?_
  rotate_left 2
  · intro w hSw
    try dsimp only at hSw
    simp only [execOp, slr.o82]
    go_simp
    try with_reducible rfl
  · simp only [slr.o82, Act.put, List.setIfInBounds_toArray, List.set_cons_zero, List.set_cons_succ]
    rfl
  refine slr.cl slr.i85 slr.r87 slr.l87 (by rfl) (fun K hK => ?_)
  unfold slr.o85
  go_simp
  go_wp2_with (go_at_call 20; refine (Or_sp sa.out sb.out (by decide)).mono ?_; rintro e x ⟨u23, rfl, s23, hb⟩; replace sa := Sp.hid sa hb; replace sb := Sp.hid sb hb; replace sc := Sp.hid sc hb; replace hB := hB.trans hb; replace hc : Hid (_ = _) := at_bl hb hc.out; clear hb)
  clear hHeld
  refine hK.out _ _ (by exact hc.out) (fun hHeld => ?_)
  clear hK K
  try simp only [Act.put, List.setIfInBounds_toArray, List.set_cons_zero, List.set_cons_succ]
  refine slr.cl slr.i86 slr.r88 slr.l88 (by rfl) (fun K hK => ?_)
  unfold slr.o86
  go_simp
  go_wp2_with (go_at_call 23; refine (Size_sp s23.out (by decide) N (fun q hq => hq.elim (Ga.out q) (Gb.out q)) (by have := Nat.le_of_lt hNl; omega)).mono ?_; rw [← HKO.out]; rintro e x ⟨rfl, hb⟩; clear s23; replace sa := Sp.hid sa hb; replace sb := Sp.hid sb hb; replace sc := Sp.hid sc hb; replace hB := hB.trans hb; replace hc : Hid (_ = _) := at_bl hb hc.out; clear hb)
  clear hHeld
  refine hK.out _ _ (by exact hc.out) (fun hHeld => ?_)
  clear hK K
  try simp only [Act.put, List.setIfInBounds_toArray, List.set_cons_zero, List.set_cons_succ]
  refine slr.cl slr.i89 slr.r89 slr.l89 (by rfl) (fun K hK => ?_)
  unfold slr.o89
  go_simp
  go_wp2_with (go_at_call 21; refine (And_sp sa.out sb.out (by decide) (by decide)).mono ?_; rintro e x ⟨u24, rfl, s24, hb⟩; replace sa := Sp.hid sa hb; replace sb := Sp.hid sb hb; replace sc := Sp.hid sc hb; replace hB := hB.trans hb; replace hc : Hid (_ = _) := at_bl hb hc.out; clear hb)
  clear hHeld
  refine hK.out _ _ (by exact hc.out) (fun hHeld => ?_)
  clear hK K
  try simp only [Act.put, List.setIfInBounds_toArray, List.set_cons_zero, List.set_cons_succ]
  refine slr.cl slr.i90 slr.r90 slr.l90 (by rfl) (fun K hK => ?_)
  unfold slr.o90
  go_simp
  go_wp2_with (go_at_call 23; refine (Size_sp s24.out (by decide) N (fun q hq => Ga.out q hq.1) (by have := Nat.le_of_lt hNl; omega)).mono ?_; rw [← HKX.out]; rintro e x ⟨rfl, hb⟩; clear s24; replace sa := Sp.hid sa hb; replace sb := Sp.hid sb hb; replace sc := Sp.hid sc hb; replace hB := hB.trans hb; replace hc : Hid (_ = _) := at_bl hb hc.out; clear hb)
  clear hHeld
  refine hK.out _ _ (by exact hc.out) (fun hHeld => ?_)
  clear hK K
  try simp only [Act.put, List.setIfInBounds_toArray, List.set_cons_zero, List.set_cons_succ]
  refine slr.tk slr.i91 slr.f91 slr.r91 slr.l91 (fun _ _ _ h => h) (v := ?_) (a' := ?_) (by rfl) ?_ (by assumption) ?_ ?_
  rotate_left 2
  · intro w hSw
    try dsimp only at hSw
    simp only [execOp, slr.o91]
    go_simp
    try with_reducible rfl
  · simp only [slr.o91, Act.put, List.setIfInBounds_toArray, List.set_cons_zero, List.set_cons_succ]
    rfl
  refine slr.tk slr.i92 slr.f92 slr.r92 slr.l92 (fun _ _ _ h => h) (v := ?_) (a' := ?_) (by rfl) ?_ (by assumption) ?_ ?_
  rotate_left 2
  · intro w hSw
    try dsimp only at hSw
    simp only [execOp, slr.o92]
    go_simp
    try with_reducible rfl
  · simp only [slr.o92, Act.put, List.setIfInBounds_toArray, List.set_cons_zero, List.set_cons_succ]
    rfl
  refine slr.tk slr.i93 slr.f93 slr.r93 slr.l93 (fun _ _ _ h => h) (v := ?_) (a' := ?_) (by rfl) ?_ (by assumption) ?_ ?_
  rotate_left 2
  · intro w hSw
    try dsimp only at hSw
    simp only [execOp, slr.o93]
    go_simp
    try with_reducible rfl
  · simp only [slr.o93, Act.put, List.setIfInBounds_toArray, List.set_cons_zero, List.set_cons_succ]
    rfl
  refine slr.tk slr.i94 slr.f94 slr.r94 slr.l94 (fun _ _ _ h => h) (v := ?_) (a' := ?_) (by rfl) ?_ (by assumption) ?_ ?_
  rotate_left 2
  · intro w hSw
    try dsimp only at hSw
    simp only [execOp, slr.o94]
    go_simp
    try with_reducible rfl
  · simp only [slr.o94, Act.put, List.setIfInBounds_toArray, List.set_cons_zero, List.set_cons_succ]
    rfl
  refine slr.tk slr.i95 slr.f95 slr.r95 slr.l95 (fun _ _ _ h => h) (v := ?_) (a' := ?_) (by rfl) ?_ (by assumption) ?_ ?_
  rotate_left 2
  · intro w hSw
    try dsimp only at hSw
    simp only [execOp, slr.o95]
    go_simp
    try with_reducible rfl
  · simp only [slr.o95, Act.put, List.setIfInBounds_toArray, List.set_cons_zero, List.set_cons_succ]
    rfl
  refine slr.tk slr.i97 slr.f96 slr.r96 slr.l96 (fun _ _ _ h => h) (v := ?_) (a' := ?_) (by rfl) ?_ (by assumption) ?_ ?_
  rotate_left 2
  · intro w hSw
    try dsimp only at hSw
    simp only [execOp, slr.o97]
    go_simp
    try with_reducible rfl
  · simp only [slr.o97, Act.put, List.setIfInBounds_toArray, List.set_cons_zero, List.set_cons_succ]
    rfl
  refine slr.tk slr.i98 slr.f97 slr.r97 slr.l97 (fun _ _ _ h => h) (v := ?_) (a' := ?_) (by rfl) ?_ (by assumption) ?_ ?_
  rotate_left 2
  · intro w hSw
    try dsimp only at hSw
    simp only [execOp, slr.o98]
    go_simp
    try with_reducible rfl
  · simp only [slr.o98, Act.put, List.setIfInBounds_toArray, List.set_cons_zero, List.set_cons_succ]
    rfl
  refine slr.tk slr.i102 slr.f98 slr.r98 slr.l98 (fun _ _ _ h => h) (v := ?_) (a' := ?_) (by rfl) ?_ (by assumption) ?_ ?_
  rotate_left 2
  · intro w hSw
    try dsimp only at hSw
    simp only [execOp, slr.o102]
    go_simp
    try with_reducible rfl
  · simp only [slr.o102, Act.put, List.setIfInBounds_toArray, List.set_cons_zero, List.set_cons_succ]
    rfl
  refine slr.cl slr.i96 slr.r99 slr.l99 (by rfl) (fun K hK => ?_)
  unfold slr.o96
  go_simp
  go_wp2_with (go_at_call 23; refine (Size_sp sa.out (by decide) N (fun q hq => Ga.out q hq) (by have := Nat.le_of_lt hNl; omega)).mono ?_; rw [← HKA.out]; rintro e x ⟨rfl, hb⟩; replace sa := Sp.hid sa hb; replace sb := Sp.hid sb hb; replace sc := Sp.hid sc hb; replace hB := hB.trans hb; replace hc : Hid (_ = _) := at_bl hb hc.out; clear hb)
  clear hHeld
  refine hK.out _ _ (by exact hc.out) (fun hHeld => ?_)
  clear hK K
  try simp only [Act.put, List.setIfInBounds_toArray, List.set_cons_zero, List.set_cons_succ]
  refine slr.cl slr.i99 slr.r100 slr.l100 (by rfl) (fun K hK => ?_)
  unfold slr.o99
  go_simp
  go_wp2_with (go_at_call 31; refine (not_sp sa.out (by decide) (N : Int) B hc.out).mono ?_; rintro e x ⟨u25, rfl, s25, hb⟩; replace sa := Sp.hid sa hb; replace sb := Sp.hid sb hb; replace sc := Sp.hid sc hb; replace hB := hB.trans hb; replace hc : Hid (_ = _) := at_bl hb hc.out; clear hb)
  clear hHeld
  refine hK.out _ _ (by exact hc.out) (fun hHeld => ?_)
  clear hK K
  try simp only [Act.put, List.setIfInBounds_toArray, List.set_cons_zero, List.set_cons_succ]
  refine slr.cl slr.i100 slr.r101 slr.l101 (by rfl) (fun K hK => ?_)
  unfold slr.o100
  go_simp
  go_wp2_with (go_at_call 23; refine (Size_sp s25.out (by decide) N (fun q hq => hq.1) (by have := Nat.le_of_lt hNl; omega)).mono ?_; rw [← HKN.out]; rintro e x ⟨rfl, hb⟩; clear s25; replace sa := Sp.hid sa hb; replace sb := Sp.hid sb hb; replace sc := Sp.hid sc hb; replace hB := hB.trans hb; replace hc : Hid (_ = _) := at_bl hb hc.out; clear hb)
  clear hHeld
  refine hK.out _ _ (by exact hc.out) (fun hHeld => ?_)
  clear hK K
  try simp only [Act.put, List.setIfInBounds_toArray, List.set_cons_zero, List.set_cons_succ]
  refine slr.tk slr.i101 slr.f102 slr.r102 slr.l102 (fun _ _ _ h => h) (v := ?_) (a' := ?_) (by rfl) ?_ (by assumption) ?_ ?_
  rotate_left 2
  · intro w hSw
    try dsimp only at hSw
    simp only [execOp, slr.o101]
    go_simp
    try with_reducible rfl
  · simp only [slr.o101, Act.put, List.setIfInBounds_toArray, List.set_cons_zero, List.set_cons_succ]
    rfl
  refine slr.tk slr.i103 slr.f103 slr.r103 slr.l103 (fun _ _ _ h => h) (v := ?_) (a' := ?_) (by rfl) ?_ (by assumption) ?_ ?_
  rotate_left 2
  · intro w hSw
    try dsimp only at hSw
    simp only [execOp, slr.o103]
    go_simp
    try with_reducible rfl
  · simp only [slr.o103, Act.put, List.setIfInBounds_toArray, List.set_cons_zero, List.set_cons_succ]
    rfl
  refine slr.tk slr.i104 slr.f104 slr.r104 slr.l104 (fun _ _ _ h => h) (v := ?_) (a' := ?_) (by rfl) ?_ (by assumption) ?_ ?_
  rotate_left 2
  · intro w hSw
    try dsimp only at hSw
    simp only [execOp, slr.o104]
    go_simp
    try with_reducible rfl
  · simp only [slr.o104, Act.put, List.setIfInBounds_toArray, List.set_cons_zero, List.set_cons_succ]
    rfl
  refine slr.tk slr.i105 slr.f105 slr.r105 slr.l105 (fun _ _ _ h => h) (v := ?_) (a' := ?_) (by rfl) ?_ (by assumption) ?_ ?_
  rotate_left 2
  · intro w hSw
    try dsimp only at hSw
    simp only [execOp, slr.o105]
    go_simp
    try with_reducible rfl
  · simp only [slr.o105, Act.put, List.setIfInBounds_toArray, List.set_cons_zero, List.set_cons_succ]
    rfl
  refine wpAnyH_done slr.rdone ?_ _
  go_wp2
  go_ret
  exact ⟨rfl, hB⟩

set_option maxRecDepth 100000 in
theorem lifted (os : Os) (started : os.Started) (H : Type) (enc : TypeId × Value → H) :
    ReturnsInHanded {} Try.checked os 6 .any (Rows.spansLawsSpec.pre6 enc Try.prog Try.f6 Rows.spansLawsRow.domain false) (Rows.spansLawsSpec.post enc Try.prog Try.f6 false true false false) := by
  refine returnsInHanded_of_change (C := Try.checked) own started (by kernel_rfl) Try.func6
    (ChangeSpec.witness6 (enc := enc) (C := Try.checked) false ⟨#[], #[.slice none 0 0, .slice none 0 0, .slice none 0 0, .int .i64 0], []⟩ 8 (by kernel_rfl) (by kernel_rfl) (by kernel_rfl) (by kernel_rfl)) ?_
  intro W base args ds gs before hval0 hW hcnd _
  have hval : ∀ (j : Nat) t v, Try.f6.params[j]? = some t → args[j]? = some v → Value.okWide Try.prog W .any base t v := hval0
  have hW' := hW
  obtain ⟨p, q, hA0, hV, rfl, hfz, hnd⟩ := hW
  have hA : DataW.TrodAll enc Try.prog W 0 (fun _ => true) true Try.f6.params.toList args.toList ds p := hA0
  rw [Try.params6] at hA hval
  obtain ⟨v0, vs0, d0, ds0, p0, q0, hargs, rfl, rfl, h0, r0⟩ := trodAll_cons hA
  obtain ⟨v1, vs1, d1, ds1, p1, q1, rfl, rfl, rfl, h1, r1⟩ := trodAll_cons r0
  obtain ⟨v2, vs2, d2, ds2, p2, q2, rfl, rfl, rfl, h2, r2⟩ := trodAll_cons r1
  obtain ⟨v3, vs3, d3, ds3, p3, q3, rfl, rfl, rfl, h3, r3⟩ := trodAll_cons r2
  obtain ⟨rfl, rfl, rfl⟩ := trodAll_nil r3
  obtain rfl : args = #[v0, v1, v2, v3] := by cases args; simp_all
  obtain ⟨rfl, rfl⟩ := trodVars_none hV
  obtain ⟨a0, len0, cap0, rfl⟩ := okWide_slice Try.underlying22 (hval 0 22 v0 rfl rfl)
  have k0 := h0
  have lt0 : ∀ x ∈ p0, x.block < W.heap.size := by obtain ⟨m, hm⟩ := k0; exact DataW.trod_lt m _ _ _ hm
  obtain ⟨z0, w0⟩ : ∃ zs, sp.IsSp W a0 len0 cap0 zs := sp.sp_open h0
  obtain ⟨a1, len1, cap1, rfl⟩ := okWide_slice Try.underlying22 (hval 1 22 v1 rfl rfl)
  have k1 := h1
  have lt1 : ∀ x ∈ p1, x.block < W.heap.size := by obtain ⟨m, hm⟩ := k1; exact DataW.trod_lt m _ _ _ hm
  obtain ⟨z1, w1⟩ : ∃ zs, sp.IsSp W a1 len1 cap1 zs := sp.sp_open h1
  obtain ⟨a2, len2, cap2, rfl⟩ := okWide_slice Try.underlying22 (hval 2 22 v2 rfl rfl)
  have k2 := h2
  have lt2 : ∀ x ∈ p2, x.block < W.heap.size := by obtain ⟨m, hm⟩ := k2; exact DataW.trod_lt m _ _ _ hm
  obtain ⟨z2, w2⟩ : ∃ zs, sp.IsSp W a2 len2 cap2 zs := sp.sp_open h2
  obtain ⟨a3, rfl, rfl, rfl, w3⟩ := open_int Try.underlying3 (hval 3 3 v3 rfl rfl) h3
  clear hA0 hval0
  refine (walk a0 len0 cap0 z0 a1 len1 cap1 z1 a2 len2 cap2 z2 a3 W w0 w1 w2 w3).mono fun e W' ⟨he, bel⟩ => ?_
  subst he
  exact ⟨_, rfl, _, _, _, [], _, [], hW', trodAll_mk1 (shut_bool Try.underlying4 _), (trodAll_cons_mk (Below.trod laidOut (by kernel_rfl) (of_decide_eq_true (by kernel_rfl)) k0 bel lt0) (trodAll_cons_mk (Below.trod laidOut (by kernel_rfl) (of_decide_eq_true (by kernel_rfl)) k1 bel lt1) (trodAll_cons_mk (Below.trod laidOut (by kernel_rfl) (of_decide_eq_true (by kernel_rfl)) k2 bel lt2) (trodAll_cons_mk (shut_int Try.underlying3 w3) trodAll_mk0)))), rfl, bel.frame _, fun h => by cases h⟩

theorem over : Rows.spansLawsRow.holds Try.pinned (OpenSpec.ofChange Rows.spansLawsSpec) :=
  OpenClaim.holds_of_wide 6 Try.f6 rfl rfl rfl rfl rfl rfl rfl ⟨rfl, rfl, rfl, rfl, rfl⟩ rfl rfl rfl rfl rfl (by kernel_rfl) Try.func6 (by kernel_rfl)
    (of_decide_eq_true (by kernel_rfl)) (by unfold Func.isWrapper; first | (rw [if_pos (by decide +kernel)]; kernel_rfl) | (rw [if_neg (by decide +kernel)]; exact ⟨rfl, rfl⟩))
    (fun os started H enc _ => lifted os started H enc)

end Go.Proofs.Ytfblmfjgbbeheaa.spansLaws
namespace Go.Proofs.Ytfblmfjgbbeheaa
/-- The given statement. -/
theorem spansLaws_holds : Rows.SpansLawsSaid := spansLaws.over
#print axioms spansLaws_holds
end Go.Proofs.Ytfblmfjgbbeheaa
