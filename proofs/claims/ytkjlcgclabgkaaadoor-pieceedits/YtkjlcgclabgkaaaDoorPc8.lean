/- Going through the pieces: walk, and the function that All and Slice range over. -/
import Derived.Test.YtkjlcgclabgkaaaDoorPc7
namespace Go.Proofs.YtkjlcgclabgkaaaDoor.pc
set_option linter.unusedVariables false
open Go.ChangeShapes Go.WideShapes Go.ChangeAt Go.RowKit Go.Shelf
open mem

attribute [local go_sem] Oper.semAt_some

theorem room_of_none {F : Fence} (hd : F.depth = none) (k : Nat) : F.room k := fun d h => by rw [hd] at h; cases h
theorem RoundIn.anyDepth {F : Fence} (hd : F.depth = none) {m m' : Nat} {P : Program} {l : Nat} {f : FuncId} {tmps : Array Value} {assign body : Code} {w : World} {R : Ending → World → Prop}
    (h : RoundIn F m P l f tmps assign body w R) : RoundIn F m' P l f tmps assign body w R := ⟨h.1, fun c cs _ => h.2 c cs (room_of_none hd _)⟩
theorem YieldAt.anyDepth {F : Fence} (hd : F.depth = none) {m : Nat} (m' : Nat) {P : Program} {l : Nat} {args : Array Value} {W : World} {R : Ending → World → Prop} (h : YieldAt F m P l args W R) : YieldAt F m' P l args W R := by
  obtain ⟨fn, tmps, assign, body, hy, hR⟩ := h
  exact ⟨fn, tmps, assign, body, hy, RoundIn.anyDepth hd hR⟩
/-- A piece, as it is handed on. -/
abbrev Pce := { x : ByteArray // 0 < x.size ∧ x.size ≤ 1000000 }
theorem grown_bl {A B : World} (h : Bl A B) : A.grownBy B none := ⟨h.os, h.tape, h.output, h.size, fun k hk _ => h.block k hk⟩
theorem IsT.is {n₀ : Nat} {W : World} {p : Option Addr} {t : Tr} (h : IsT n₀ W p t) (hn : n₀ ≤ W.heap.size) : Is W p t := h.up hn
theorem wide_in {F : Fence} (hF : F = Fence.wide) {n : Nat} {P : Program} {f : FuncId} {args : Array Value} {w : World} {R : Ending → World → Prop} (h : Calls P f args w R) : CallsIn F n P f args w R := by
  subst hF
  exact callsIn_wide.2 h
set_option maxRecDepth 100000 in
set_option maxHeartbeats 4000000 in
/-- walk. -/
theorem walk_in (F : Fence) (hF : F = Fence.wide) (l n₀ N : Nat) (J Jx : List Pce → World → Prop) (hJ : ∀ s A B, J s A → Bl A B → J s B)
    (hY : ∀ m pre x W, J pre W → pre.length < N → YieldAt F m Tryd.prog l #[.string x.1] W fun e W' =>
      (e = .returned (.bool true) ∧ J (pre ++ [x]) W' ∧ Below n₀ W W') ∨ (e = .returned (.bool false) ∧ Jx (pre ++ [x]) W')) (t : Tr) :
    ∀ (n : Nat) (p : Option Addr) (f g : Int) (S pre : List Pce) (W : World), IsT n₀ W p t → n₀ ≤ W.heap.size → fit t.ps → -3000000 + ((tot t.ps : Nat) : Int) ≤ f → -3000000 + ((tot t.ps : Nat) : Int) ≤ g → f ≤ 3000000 → g ≤ 3000000 → S.map (·.1) = seg t f g → J pre W → pre.length + S.length ≤ N →
      CallsIn F n Tryd.prog 28 #[.pointer p, .int .i64 f, .int .i64 g, .func (.yield l) #[] #[]] W fun e W' =>
        (e = .returned (.bool true) ∧ J (pre ++ S) W' ∧ Below n₀ W W') ∨ (e = .returned (.bool false) ∧ ∃ q, q <+: S ∧ Jx (pre ++ q) W') := by
  have hd : F.depth = none := by rw [hF]; rfl
  have hro : F.round = none := by rw [hF]; rfl
  have h25 : F.fn 28 := by rw [hF]; trivial
  have h23 : F.fn 21 := by rw [hF]; trivial
  have hdd : ∀ k : Nat, (F.depth.isSome = true → 1 ≤ k) := fun k h => by rw [hd] at h; cases h
  have HF : Hid (F = Fence.wide) := hF
  clear hF
  induction t with
  | leaf =>
    intro n p f g S pre W ht hn hf hf0 hg0 hf1 hg1 hS h0 hN
    obtain rfl : p = none := ht
    obtain rfl : S = [] := List.map_eq_nil_iff.1 hS
    refine callsIn_of_wp Tryd.func28 rfl h25 ?_ hro
    simp only [Tryd.ntmps28, List.size_toArray, List.length_cons, List.length_nil, Nat.reduceAdd, Nat.reduceSub, Array.replicate_succ, Array.replicate_zero, List.push_toArray, List.append_toArray, List.nil_append, List.cons_append]
    gi_wp2
    go_ret
    exact .inl ⟨rfl, by simpa using h0, Below.refl _ _⟩
  | node tl s tr ihl ihr =>
    intro n p f g S pre W ht hn hf hf0 hg0 hf1 hg1 hS h0 hN
    obtain ⟨b, pl, pr, rfl, ⟨hb, _⟩, c0, c1, c2, c3, c4, c5, hl, hr⟩ := ht
    rw [show tl.ps ++ s :: tr.ps = (Tr.node tl s tr).ps from rfl] at c3
    have e1 : tot (Tr.node tl s tr).ps = tot tl.ps + s.size + tot tr.ps := by rw [Tr.ps, tot_app, tot]; omega
    obtain ⟨T, hT⟩ : ∃ T : Nat, T = tot (Tr.node tl s tr).ps := ⟨_, rfl⟩
    by_cases hout : g ≤ 0 ∨ ((tot (Tr.node tl s tr).ps : Nat) : Int) ≤ f
    · rw [seg, if_pos hout] at hS
      obtain rfl : S = [] := List.map_eq_nil_iff.1 hS
      rw [← hT] at hout c3
      clear ihl ihr hY hS c4 c5 e1 hT hf0 hg0 hf
      refine callsIn_of_wp Tryd.func28 rfl h25 ?_ hro
      simp only [Tryd.ntmps28, List.size_toArray, List.length_cons, List.length_nil, Nat.reduceAdd, Nat.reduceSub, Array.replicate_succ, Array.replicate_zero, List.push_toArray, List.append_toArray, List.nil_append, List.cons_append]
      by_cases hg : g ≤ 0
      · gi_wp2
        go_ret
        exact .inl ⟨rfl, by simpa using h0, Below.refl _ _⟩
      · have hff : (T : Int) ≤ f := by omega
        gi_wp2
        go_ret
        exact .inl ⟨rfl, by simpa using h0, Below.refl _ _⟩
    · rw [seg, if_neg hout] at hS
      have hto := hf.2
      have hfl : fit tl.ps := hf.sub (by simp [Tr.ps])
      have hfr : fit tr.ps := hf.sub (by simp [Tr.ps])
      obtain ⟨B, hB⟩ : ∃ B : Nat, B = tot tl.ps := ⟨_, rfl⟩
      obtain ⟨E, hE⟩ : ∃ E : Nat, E = tot tl.ps + s.size := ⟨_, rfl⟩
      have cp := wide_in (n := n - 1) HF.out (place_at b pl tl s W c0 c1 (hl.is hn) (by omega))
      rw [← hE, ← hB] at hS
      rw [← hE, ← hB] at cp
      obtain ⟨S12, S3, rfl, h12, h3⟩ := List.map_eq_append_iff.1 hS
      obtain ⟨S1, S2, rfl, h1, h2⟩ := List.map_eq_append_iff.1 h12
      clear hS h12
      have hN' : pre.length + (S1.length + S2.length + S3.length) ≤ N := by simp at hN; omega
      have gout1 : ¬ g ≤ 0 := fun h => hout (.inl h)
      have gout2 : ¬ (T : Int) ≤ f := fun h => hout (.inr (by rw [← hT]; exact h))
      obtain ⟨LO, hLO⟩ : ∃ LO : Int, LO = max f (B : Int) := ⟨_, rfl⟩
      obtain ⟨HI, hHI⟩ : ∃ HI : Int, HI = min g (E : Int) := ⟨_, rfl⟩
      have hmax : (if f < (B : Int) then (B : Int) else f) = LO := by split <;> omega
      have hmin : (if (E : Int) < g then (E : Int) else g) = HI := by split <;> omega
      have hw1 : IntKind.i64.wrap (f - (E : Int)) = f - (E : Int) := by rw [IntKind.wrap_i64]; omega
      have hw2 : IntKind.i64.wrap (g - (E : Int)) = g - (E : Int) := by rw [IntKind.wrap_i64]; omega
      rw [← hLO, ← hHI] at h2
      have cR : ∀ (pre' : List Pce) (W2 : World), J pre' W2 → Below n₀ W W2 → pre'.length + S3.length ≤ N → CallsIn F (n - 1) Tryd.prog 28 #[.pointer pr, .int .i64 (f - (E : Int)), .int .i64 (g - (E : Int)), .func (.yield l) #[] #[]] W2 fun e W' =>
          (e = .returned (.bool true) ∧ J (pre' ++ S3) W' ∧ Below n₀ W W') ∨ (e = .returned (.bool false) ∧ ∃ q, q <+: S3 ∧ Jx (pre' ++ q) W') := fun pre' W2 hj hb2 hlen =>
        (ihr (n - 1) pr (f - (E : Int)) (g - (E : Int)) S3 pre' W2 (hr.below hb2) (Nat.le_trans hn hb2.size) hfr (by omega) (by omega) (by omega) (by omega) h3 hj hlen).mono fun e W' h => h.elim (fun ⟨he, hj', hb'⟩ => .inl ⟨he, hj', hb2.trans hb'⟩) .inr
      have c0' : ∀ W1, Below n₀ W W1 → W1.cell? ⟨b, 0, none⟩ = some (.pointer pl) := fun W1 h => (h.cell (p := ⟨b, 0, none⟩) hb).trans c0
      have c1' : ∀ W1, Below n₀ W W1 → W1.cell? ⟨b, 1, none⟩ = some (.string s) := fun W1 h => (h.cell (p := ⟨b, 1, none⟩) hb).trans c1
      have c2' : ∀ W1, Below n₀ W W1 → W1.cell? ⟨b, 2, none⟩ = some (.pointer pr) := fun W1 h => (h.cell (p := ⟨b, 2, none⟩) hb).trans c2
      have HC0 : Hid _ := c0'
      have HC1 : Hid _ := c1'
      have HC2 : Hid _ := c2'
      have hbN : ∀ W1, Bl W W1 → Below n₀ W W1 := fun W1 h => Below.mono h hn
      have HBN : Hid _ := hbN
      rw [← hT] at c3
      by_cases hlt : LO < HI
      · rw [if_pos hlt] at h2
        obtain ⟨x, rfl, hx⟩ : ∃ x : Pce, S2 = [x] ∧ x.1 = s.extract (LO - (B : Int)).toNat (HI - (B : Int)).toNat := by
          cases S2 with
          | nil => simp at h2
          | cons x S2' =>
            cases S2' with
            | nil => exact ⟨x, rfl, by simpa using h2⟩
            | cons y _ => simp at h2
        obtain ⟨J1, hJ1⟩ : ∃ J1 : Nat, (J1 : Int) = LO - (B : Int) := ⟨(LO - (B : Int)).toNat, by omega⟩
        obtain ⟨J2, hJ2⟩ : ∃ J2 : Nat, (J2 : Int) = HI - (B : Int) := ⟨(HI - (B : Int)).toNat, by omega⟩
        rw [← hJ1, ← hJ2, Int.toNat_natCast, Int.toNat_natCast] at hx
        have hw3 : IntKind.i64.wrap (LO - (B : Int)) = (J1 : Int) := by rw [IntKind.wrap_i64]; omega
        have hw4 : IntKind.i64.wrap (HI - (B : Int)) = (J2 : Int) := by rw [IntKind.wrap_i64]; omega
        have k1 : (0 : Int) ≤ (J1 : Int) := by omega
        have k2 : (J1 : Int) ≤ (J2 : Int) := by omega
        have k3 : (J2 : Int) ≤ (s.size : Int) := by omega
        have cY : ∀ W1, J (pre ++ S1) W1 → Below n₀ W W1 → YieldAt F (n - 1) Tryd.prog l #[.string (s.extract J1 J2)] W1 fun e W2 =>
            (e = .returned (.bool true) ∧ J (pre ++ S1 ++ [x]) W2 ∧ Below n₀ W W2) ∨ (e = .returned (.bool false) ∧ Jx (pre ++ S1 ++ [x]) W2) := fun W1 hj hb1 => by
          rw [← hx]
          exact YieldAt.mono (hY (n - 1) _ x W1 hj (by simp at hN' ⊢; omega)) fun e W2 h => h.elim (fun ⟨he, hj', hb2⟩ => .inl ⟨he, hj', hb1.trans hb2⟩) .inr
        have cL : ∀ W1, J pre W1 → Bl W W1 → CallsIn F (n - 1) Tryd.prog 28 #[.pointer pl, .int .i64 f, .int .i64 g, .func (.yield l) #[] #[]] W1 fun e W2 =>
            (e = .returned (.bool true) ∧ Below n₀ W W2 ∧ YieldAt F (n - 1) Tryd.prog l #[.string (s.extract J1 J2)] W2 fun e W3 =>
            (e = .returned (.bool true) ∧ J (pre ++ S1 ++ [x]) W3 ∧ Below n₀ W W3) ∨ (e = .returned (.bool false) ∧ Jx (pre ++ S1 ++ [x]) W3)) ∨ (e = .returned (.bool false) ∧ ∃ q, q <+: S1 ∧ Jx (pre ++ q) W2) := fun W1 hj hb1 =>
          (ihl (n - 1) pl f g S1 pre W1 (hl.below (hbN _ hb1)) (Nat.le_trans hn (Bl.size hb1)) hfl (by omega) (by omega) hf1 hg1 h1 hj (by omega)).mono fun e W2 h => h.elim (fun ⟨he, hj', hb2⟩ => .inl ⟨he, (hbN _ hb1).trans hb2, cY W2 hj' ((hbN _ hb1).trans hb2)⟩) .inr
        have HN : Hid (pre.length + S1.length + 1 + S3.length ≤ N) := by unfold Hid; simp at hN'; omega
        clear ihl ihr hY cY c0' c1' c2' hbN hout hN hN' hx hJ1 hJ2 hLO hHI h1 h2 h3 hfl hfr hf hto hT hE hB e1 c4 c5 hf0 hg0 hf1 hg1 hl hr
        refine callsIn_of_wp Tryd.func28 rfl h25 ?_ hro
        simp only [Tryd.ntmps28, List.size_toArray, List.length_cons, List.length_nil, Nat.reduceAdd, Nat.reduceSub, Array.replicate_succ, Array.replicate_zero, List.push_toArray, List.append_toArray, List.nil_append, List.cons_append]
        gi_wp2_with (first
          | ((try refine ⟨hdd _, ?_⟩); gi_at_call 21; refine cp.mono ?_; clear cp; rintro e W1 ⟨rfl, hb1⟩; have cL1 := cL _ (hJ _ _ _ h0 hb1) hb1; clear cL; have d0 := HC0.out _ (HBN.out _ hb1))
          | ((try refine ⟨hdd _, ?_⟩); gi_at_call 28; refine cL1.mono ?_; clear cL1; rintro e W2 (⟨rfl, hb2, fn, tmps, assign, body, hy, hR⟩ | ⟨rfl, q, hq, hx1⟩) <;> try (have d1 := HC1.out _ hb2))
          | ((try refine ⟨hdd _, ?_⟩); refine hR.mono ?_; clear hR; rintro e W3 (⟨rfl, hJ3, hb3⟩ | ⟨rfl, hx3⟩) <;> try (have d2 := HC2.out _ hb3; have cR1 := cR _ _ hJ3 hb3 (by have := HN.out; simp; omega)))
          | ((try refine ⟨hdd _, ?_⟩); gi_at_call 28; refine cR1.mono ?_; clear cR1; rintro e W4 (⟨rfl, hJ4, hb4⟩ | ⟨rfl, q, hq, hx4⟩)))
        · go_ret
          exact .inl ⟨rfl, by simpa [List.append_assoc] using hJ4, hb4⟩
        · go_ret
          obtain ⟨r, rfl⟩ := hq
          exact .inr ⟨rfl, S1 ++ [x] ++ q, ⟨r, by simp⟩, by simpa [List.append_assoc] using hx4⟩
        · go_ret
          exact .inr ⟨rfl, S1 ++ [x], ⟨S3, by simp⟩, by simpa [List.append_assoc] using hx3⟩
        · go_ret
          exact .inr ⟨rfl, q, hq.trans (by simp), hx1⟩
      · rw [if_neg hlt] at h2
        obtain rfl : S2 = [] := List.map_eq_nil_iff.1 h2
        have cL : ∀ W1, J pre W1 → Bl W W1 → CallsIn F (n - 1) Tryd.prog 28 #[.pointer pl, .int .i64 f, .int .i64 g, .func (.yield l) #[] #[]] W1 fun e W2 =>
            (e = .returned (.bool true) ∧ J (pre ++ S1) W2 ∧ Below n₀ W W2) ∨ (e = .returned (.bool false) ∧ ∃ q, q <+: S1 ∧ Jx (pre ++ q) W2) := fun W1 hj hb1 =>
          (ihl (n - 1) pl f g S1 pre W1 (hl.below (hbN _ hb1)) (Nat.le_trans hn (Bl.size hb1)) hfl (by omega) (by omega) hf1 hg1 h1 hj (by omega)).mono fun e W2 h => h.elim (fun ⟨he, hj', hb2⟩ => .inl ⟨he, hj', (hbN _ hb1).trans hb2⟩) .inr
        have HN : Hid (pre.length + S1.length + S3.length ≤ N) := by unfold Hid; simp at hN'; omega
        clear ihl ihr hY c0' c1' c2' hbN hout hN hN' hLO hHI h1 h2 h3 hfl hfr hf hto hT hE hB e1 c4 c5 hf0 hg0 hf1 hg1 hl hr
        refine callsIn_of_wp Tryd.func28 rfl h25 ?_ hro
        simp only [Tryd.ntmps28, List.size_toArray, List.length_cons, List.length_nil, Nat.reduceAdd, Nat.reduceSub, Array.replicate_succ, Array.replicate_zero, List.push_toArray, List.append_toArray, List.nil_append, List.cons_append]
        gi_wp2_with (first
          | ((try refine ⟨hdd _, ?_⟩); gi_at_call 21; refine cp.mono ?_; clear cp; rintro e W1 ⟨rfl, hb1⟩; have cL1 := cL _ (hJ _ _ _ h0 hb1) hb1; clear cL; have d0 := HC0.out _ (HBN.out _ hb1))
          | ((try refine ⟨hdd _, ?_⟩); gi_at_call 28; refine cL1.mono ?_; clear cL1; rintro e W2 (⟨rfl, hj2, hb2⟩ | ⟨rfl, q, hq, hx1⟩) <;> try (have d2 := HC2.out _ hb2; have cR1 := cR _ _ hj2 hb2 (by have := HN.out; simp; omega))))
        · refine ⟨fun _ h => (by cases h), ?_⟩
          gi_wp2_with ((try refine ⟨hdd _, ?_⟩); gi_at_call 28; refine cR1.mono ?_; clear cR1; rintro e W4 (⟨rfl, hJ4, hb4⟩ | ⟨rfl, q, hq, hx4⟩))
          · go_ret
            exact .inl ⟨rfl, by simpa [List.append_assoc] using hJ4, hb4⟩
          · go_ret
            obtain ⟨r, rfl⟩ := hq
            exact .inr ⟨rfl, S1 ++ q, ⟨r, by simp⟩, by simpa [List.append_assoc] using hx4⟩
        · go_ret
          exact .inr ⟨rfl, q, hq.trans (by simp), hx1⟩
set_option maxRecDepth 100000 in
set_option maxHeartbeats 4000000 in
/-- The function that between makes. -/
theorem between1_in (F : Fence) (hF : F = Fence.wide) (n l Bt Bf Bg n₀ : Nat) (p : Option Addr) (f g : Int) (t : Tr) (S : List Pce) (J Jx : List Pce → World → Prop) (hJ : ∀ s A B, J s A → Bl A B → J s B)
    (hY : ∀ pre x W, J pre W → pre.length < S.length → YieldAt F (n - 1) Tryd.prog l #[.string x.1] W fun e W' =>
      (e = .returned (.bool true) ∧ J (pre ++ [x]) W' ∧ Below n₀ W W') ∨ (e = .returned (.bool false) ∧ Jx (pre ++ [x]) W'))
    (W : World) (ht : W.cell? ⟨Bt, 0, none⟩ = some (.pointer p)) (hf : W.cell? ⟨Bf, 0, none⟩ = some (.int .i64 f)) (hg : W.cell? ⟨Bg, 0, none⟩ = some (.int .i64 g)) (hT : IsT n₀ W p t) (hn : n₀ ≤ W.heap.size) (hfit : fit t.ps)
    (hf0 : -1000000 ≤ f) (hg0 : -1000000 ≤ g) (hf1 : f ≤ 3000000) (hg1 : g ≤ 3000000) (hS : S.map (·.1) = seg t f g) (h0 : J [] W) :
    CallsIn F n Tryd.prog 27 #[.func (.yield l) #[] #[], .pointer (some ⟨Bt, 0, none⟩), .pointer (some ⟨Bf, 0, none⟩), .pointer (some ⟨Bg, 0, none⟩)] W fun e W' => (∃ v, e = .returned v) ∧
      ((∃ ys, ys = S ∧ J ys W') ∨ (∃ pre, pre <+: S ∧ Jx pre W')) := by
  have hd : F.depth = none := by rw [hF]; rfl
  have hro : F.round = none := by rw [hF]; rfl
  have h25 : F.fn 28 := by rw [hF]; trivial
  have h24 : F.fn 27 := by rw [hF]; trivial
  have hdd : ∀ k : Nat, (F.depth.isSome = true → 1 ≤ k) := fun k h => by rw [hd] at h; cases h
  have hto := hfit.2
  have hne : ∀ W : World, (binOp .neq 74 (.func (.yield l) #[] #[]) .nilFunc).run Tryd.prog W = .ok (.bool true) W := fun _ => by kernel_rfl
  have hp := walk_in F hF l n₀ S.length J Jx hJ (fun m pre x W hj hl => YieldAt.anyDepth hd m (hY pre x W hj hl)) t (n - 1) p f g S [] W hT hn hfit (by omega) (by omega) hf1 hg1 hS h0 (by simp)
  clear hF hY
  refine callsIn_of_wp Tryd.func27 rfl h24 ?_ hro
  simp only [Tryd.ntmps27, List.size_toArray, List.length_cons, List.length_nil, Nat.reduceAdd, Nat.reduceSub, Array.replicate_succ, Array.replicate_zero, List.push_toArray, List.append_toArray, List.nil_append, List.cons_append]
  gi_wp2_with ((try refine ⟨hdd _, ?_⟩); gi_at_call 28; refine hp.mono ?_; clear hp; rintro e W1 (⟨rfl, hJ1, _⟩ | ⟨rfl, q, hq, hx⟩))
  · go_end0
    exact ⟨⟨_, rfl⟩, .inl ⟨_, rfl, by simpa using hJ1⟩⟩
  · go_end0
    exact ⟨⟨_, rfl⟩, .inr ⟨q, hq, by simpa using hx⟩⟩
/-- What between hands back stops where it is told to. -/
theorem between_stops (F : Fence) (hF : F = Fence.wide) (n Bt Bf Bg n₀ : Nat) (p : Option Addr) (f g : Int) (t : Tr) (S : List Pce) (w : World) (hBt : Bt < w.heap.size) (hBf : Bf < w.heap.size) (hBg : Bg < w.heap.size) (hn₀ : n₀ ≤ w.heap.size)
    (ht : w.cell? ⟨Bt, 0, none⟩ = some (.pointer p)) (hf : w.cell? ⟨Bf, 0, none⟩ = some (.int .i64 f)) (hg : w.cell? ⟨Bg, 0, none⟩ = some (.int .i64 g)) (hT : IsT n₀ w p t) (hfit : fit t.ps)
    (hf0 : -1000000 ≤ f) (hg0 : -1000000 ≤ g) (hf1 : f ≤ 3000000) (hg1 : g ≤ 3000000) (hS : S.map (·.1) = seg t f g) :
    SeqStopsK F n Tryd.prog 27 #[.pointer (some ⟨Bt, 0, none⟩), .pointer (some ⟨Bf, 0, none⟩), .pointer (some ⟨Bg, 0, none⟩)] (fun x : Pce => #[Value.string x.1]) (Below n₀) (fun ys => ys = S) (fun pre => pre <+: S) S.length w := fun l J Jx W hW hJ _ hY h0 =>
  between1_in F hF n l Bt Bf Bg n₀ p f g t S J Jx (fun s A B hs hb => hJ s A B none hs (grown_bl hb) (fun r e => by cases e)) hY W ((hW.cell (p := ⟨Bt, 0, none⟩) hBt).trans ht) ((hW.cell (p := ⟨Bf, 0, none⟩) hBf).trans hf) ((hW.cell (p := ⟨Bg, 0, none⟩) hBg).trans hg) (hT.below (hW.mono hn₀)) (Nat.le_trans hn₀ hW.size) hfit hf0 hg0 hf1 hg1 hS h0
set_option maxHeartbeats 1000000 in
/-- between: the text, from and to are boxed. -/
theorem between_at (p : Option Addr) (f g : Int) (w : World) :
    Calls Tryd.prog 18 #[.agg #[.pointer p], .int .i64 f, .int .i64 g] w fun e w' => e = .returned (.func (.func 27) #[] #[.pointer (some ⟨w.heap.size, 0, none⟩), .pointer (some ⟨w.heap.size + 1, 0, none⟩), .pointer (some ⟨w.heap.size + 2, 0, none⟩)]) ∧
      w' = ((w.alloc (.cells #[.pointer p] 26)).alloc (.cells #[.int .i64 f] 3)).alloc (.cells #[.int .i64 g] 3) := by
  go_enter Tryd.func18, Tryd.ntmps18
  go_wp2
  go_ret
  exact ⟨rfl, rfl⟩
end Go.Proofs.YtkjlcgclabgkaaaDoor.pc
