/- Texts laid together: St3, St4. -/
import Derived.Test.YtkldnapbeebdkaaDoorZ8
/- Groups in a row: which of two is rarer, and two sorted parts merged where they stand. -/
namespace Go.Proofs.YtkldnapbeebdkaaDoor.st
set_option linter.unusedVariables false
open Go.Shelf Go.RowKit Go.Lib Go.Sort
open mem
theorem ret_int {a b : Int} (h : a = b) : Ending.returned (.int .i64 a) = .returned (.int .i64 b) := by rw [h]
def cfi (x y : Int) : Int := if x < y then -1 else if y < x then 1 else 0
theorem isNaN_at (x : Int) (w : World) : Calls Tryd.prog 37 #[.int .i64 x] w fun e w' => e = .returned (.bool false) ∧ w' = w := by
  go_enter Tryd.func37, Tryd.ntmps37
  go_wp2
  go_ret
  exact ⟨rfl, rfl⟩
theorem Compare_at (x y : Int) (w : World) : Calls Tryd.prog 22 #[.int .i64 x, .int .i64 y] w fun e w' => e = .returned (.int .i64 (cfi x y)) ∧ w' = w := by
  have c := isNaN_at
  go_enter Tryd.func22, Tryd.ntmps22
  by_cases h1 : x < y
  · go_wp2_with (go_at_call 37; refine (c _ _).mono ?_; rintro e w' ⟨rfl, rfl⟩)
    go_ret
    exact ⟨ret_int (by unfold cfi; rw [if_pos h1]), rfl⟩
  · by_cases h2 : y < x
    · go_wp2_with (go_at_call 37; refine (c _ _).mono ?_; rintro e w' ⟨rfl, rfl⟩)
      go_ret
      exact ⟨ret_int (by unfold cfi; rw [if_neg (by omega), if_pos (by omega)]), rfl⟩
    · go_wp2_with (go_at_call 37; refine (c _ _).mono ?_; rintro e w' ⟨rfl, rfl⟩)
      go_ret
      exact ⟨ret_int (by unfold cfi; rw [if_neg (by omega), if_neg (by omega)]), rfl⟩
def cf (x y : Gv × Nat) : Int := cfi x.1.1 y.1.1
theorem closure_at (x y : Gv × Nat) (W : World) : Calls Tryd.prog 21 #[.agg #[.int .i64 x.1.1, .slice x.1.2.1 x.1.2.2.1 x.1.2.2.2], .agg #[.int .i64 y.1.1, .slice y.1.2.1 y.1.2.2.1 y.1.2.2.2]] W fun e w' => e = .returned (.int .i64 (cf x y)) ∧ ∃ q os', w' = grow (W.drewN q) os' := by
  have hcon := fun W' => Compare_at x.1.1 y.1.1 W'
  unfold cf
  generalize cfi x.1.1 y.1.1 = r at hcon ⊢
  go_enter Tryd.func21, Tryd.ntmps21
  go_wp2_with (go_at_call 22; refine (hcon _).mono ?_; rintro e w' ⟨rfl, rfl⟩)
  go_ret
  exact ⟨rfl, 0, _, by rw [alloc_eq_grow, alloc_eq_grow, grow_grow]; rfl⟩
theorem cmp_lays (blk off size : Nat) (w : World) : CmpLays Tryd.prog 21 #[] enc 2 cf blk off size w :=
  fun _ _ _ _ x y => closure_at x y _
theorem lt_is (x y : Gv × Nat) : ltOf cf x y = decide (x.1.1 < y.1.1) := by
  unfold ltOf cf cfi
  by_cases h1 : x.1.1 < y.1.1
  · simp [h1]
  · by_cases h2 : y.1.1 < x.1.1 <;> simp [h1, h2]
theorem cf_neg {x y : Gv × Nat} (h : ltOf cf x y = true) : cf x y < 0 := of_decide_eq_true h
theorem cf_not {x y : Gv × Nat} (h : ltOf cf x y = false) : ¬ cf x y < 0 := of_decide_eq_false h
abbrev fnv : Value := .func (.func 21) #[] #[]
set_option maxHeartbeats 16000000 in
set_option maxRecDepth 1000000 in
/-- One element on the left. -/
theorem sym_left (T : Gv × Nat → Gv × Nat → Bool) (hO : SWO T) (blk off cap a b : Nat) (d0 d : Array (Gv × Nat)) (w0 w : World) (R : R2 w0 blk off d0) (hs : d0.size = d.size) (S : S2 w0 blk off d w) (hmb : a + 1 < b) (hb : b ≤ d.size) (hsz : d.size < 4611686018427387904)
    (hr : SortedIn T (a + 1) b d) (hf : Fair (ltOf cf) T a (a + 1) b d) :
    Calls Tryd.prog 53 #[.slice (some ⟨blk, off, none⟩) d.size cap, .int .i64 a, .int .i64 ((a : Int) + 1), .int .i64 b, fnv] w fun e w' => e = .returned (.tuple #[]) ∧ ∃ d', PermIn a b d d' ∧ SortedIn T a b d' ∧ S2 w0 blk off d' w' := by
  have mixed := mixedP; have tR := tR; have aR := aR; have zR := zR; have aE := aE; have zE := zE; have tI := tI; have aI := aI; have zI := zI
  have S0 : Aside (S2 w0 blk off d w) := S
  have HR : Hid (SortedIn T (a + 1) b d) := hr
  have HF : Hid (Fair (ltOf cf) T a (a + 1) b d) := hf
  have HO : Hid (SWO T) := hO
  clear S hr hf hO
  have h1 : (((a : Int) + 1 - (a : Int)) == 1) = true := by rw [beq_iff_eq]; omega
  go_enter Tryd.func53, Tryd.ntmps53
  go_wp2
  go_loopg [10, 11] (b - a) (fun kx s10 s11 wr => ∃ (i j : Nat), s10 = .int .i64 i ∧ s11 = .int .i64 j ∧ a + 1 ≤ i ∧ i ≤ j ∧ j ≤ b ∧ j - i ≤ kx ∧ Hid ((∀ x, a + 1 ≤ x → x < i → T d[x]! d[a]! = true) ∧ (∀ x, j ≤ x → x < b → T d[x]! d[a]! = false)) ∧ Aside (S2 w0 blk off d wr))
  case atStart => exact ⟨a + 1, b, by go_num, rfl, Nat.le_refl _, by omega, Nat.le_refl _, by omega, ⟨fun x h1 h2 => by omega, fun x h1 h2 => by omega⟩, S0⟩
  case round =>
    clear S0
    obtain ⟨i, j, rfl, rfl, hi, hij, hjb, hkx, H, S1⟩ := hrel
    by_cases hlt : i < j
    · have hltz : (i : Int) < j := by omega
      go_wp2_with fail
      have HFh : Hid (ltOf cf d[(i + j) / 2]! d[a]! = T d[(i + j) / 2]! d[a]!) := HF.out a ((i + j) / 2) (Nat.le_refl _) (by omega) (by omega) (by omega)
      cases hlv : ltOf cf d[(i + j) / 2]! d[a]! with
      | true =>
        have HL : Hid (T d[(i + j) / 2]! d[a]! = true) := by rw [← HFh.out]; exact hlv
        have ea1 : (((i : Int) + (j : Int)) / 2).toNat = (i + j) / 2 := by omega
        have pa1 : (0 : Int) ≤ ((i : Int) + (j : Int)) / 2 := by omega
        have ba1 : ((i : Int) + (j : Int)) / 2 < (d.size : Int) := by omega
        have ra1 : IntKind.i64.wrap (((i : Int) + (j : Int)) / 2) = ((i : Int) + (j : Int)) / 2 := by rw [IntKind.wrap_i64]; omega
        have ec1 : ((a : Int)).toNat = a := by omega
        have pc1 : (0 : Int) ≤ (a : Int) := by omega
        have bc1 : (a : Int) < (d.size : Int) := by omega
        have rc1 : IntKind.i64.wrap ((a : Int)) = (a : Int) := by rw [IntKind.wrap_i64]; omega
        obtain ⟨x1, hx1⟩ : ∃ x, x = d[(i + j) / 2]! := ⟨_, rfl⟩
        obtain ⟨y1, hy1⟩ : ∃ x, x = d[a]! := ⟨_, rfl⟩
        have l1a : ∀ n os, (grow (wr.drewN n) os).cell? ⟨blk, off + ((i + j) / 2) * 2, none⟩ = some (.int .i64 x1.1.1) := fun n os => by rw [hx1]; exact (cells2 (S1.out.grown n os) R (by omega) ((i + j) / 2) (by omega)).1
        have m1a : ∀ n os, (grow (wr.drewN n) os).cell? ⟨blk, off + ((i + j) / 2) * 2 + 1, none⟩ = some (.slice x1.1.2.1 x1.1.2.2.1 x1.1.2.2.2) := fun n os => by rw [hx1]; exact (cells2 (S1.out.grown n os) R (by omega) ((i + j) / 2) (by omega)).2.1
        have l1c : ∀ n os, (grow (wr.drewN n) os).cell? ⟨blk, off + (a) * 2, none⟩ = some (.int .i64 y1.1.1) := fun n os => by rw [hy1]; exact (cells2 (S1.out.grown n os) R (by omega) (a) (by omega)).1
        have m1c : ∀ n os, (grow (wr.drewN n) os).cell? ⟨blk, off + (a) * 2 + 1, none⟩ = some (.slice y1.1.2.1 y1.1.2.2.1 y1.1.2.2.2) := fun n os => by rw [hy1]; exact (cells2 (S1.out.grown n os) R (by omega) (a) (by omega)).2.1
        have k1a : ∀ n os, Sem.run Tryd.prog (loadCellsFrom ⟨blk, off + ((i + j) / 2) * 2, none⟩ 0 2 #[]) (grow (wr.drewN n) os) = .ok #[.int .i64 x1.1.1, .slice x1.1.2.1 x1.1.2.2.1 x1.1.2.2.2] (grow (wr.drewN n) os) := fun n os => by rw [hx1]; exact S1.out.ld R (by omega) Tryd.prog ((i + j) / 2) (by omega) n os
        have k1c : ∀ n os, Sem.run Tryd.prog (loadCellsFrom ⟨blk, off + (a) * 2, none⟩ 0 2 #[]) (grow (wr.drewN n) os) = .ok #[.int .i64 y1.1.1, .slice y1.1.2.1 y1.1.2.2.1 y1.1.2.2.2] (grow (wr.drewN n) os) := fun n os => by rw [hy1]; exact S1.out.ld R (by omega) Tryd.prog (a) (by omega) n os
        have hc1 : ∀ n os, Calls Tryd.prog 21 #[.agg #[.int .i64 x1.1.1, .slice x1.1.2.1 x1.1.2.2.1 x1.1.2.2.2], .agg #[.int .i64 y1.1.1, .slice y1.1.2.1 y1.1.2.2.1 y1.1.2.2.2]] (grow (wr.drewN n) os) _ := fun n os => closure_at x1 y1 (grow (wr.drewN n) os)
        have hv1 : cf x1 y1 < 0 := by rw [hx1, hy1]; exact cf_neg hlv
        have hd1 : decide (cf x1 y1 < 0) = true := decide_eq_true hv1
        clear hx1 hy1
        generalize cf x1 y1 = v1 at hc1 hv1 hd1
        go_wp2_with fail
        go_quiet_grown (first | (go_at_call 21; refine Calls.grown_of (hc1 _ _)))
        have S3 : Aside (S2 w0 blk off d (grow (wr.drewN nq) osq)) := S1.out.grown nq osq
        clear l1a m1a l1c m1c k1a k1c hc1 S1
        generalize grow (wr.drewN nq) osq = w2 at S3 ⊢
        clear nq osq
        go_wp2
        go_roundg (j - ((i + j) / 2 + 1))
        case measure => omega
        case rel =>
          refine ⟨(i + j) / 2 + 1, j, by first | rfl | (congr 1; done) | (congr 1; omega), rfl, by omega, by omega, hjb, Nat.le_refl _, ⟨fun x h1 h2 => ?_, H.out.2⟩, S3⟩
          by_cases hx : x = (i + j) / 2
          · rw [hx]; exact HL.out
          · cases ht : T d[x]! d[a]! with
            | true => rfl
            | false =>
              have := HO.out.ntrans _ _ _ (HR.out x ((i + j) / 2) h1 (by omega) (by omega)) ht
              rw [HL.out] at this
              cases this
      | false =>
        have HL : Hid (T d[(i + j) / 2]! d[a]! = false) := by rw [← HFh.out]; exact hlv
        have ea2 : (((i : Int) + (j : Int)) / 2).toNat = (i + j) / 2 := by omega
        have pa2 : (0 : Int) ≤ ((i : Int) + (j : Int)) / 2 := by omega
        have ba2 : ((i : Int) + (j : Int)) / 2 < (d.size : Int) := by omega
        have ra2 : IntKind.i64.wrap (((i : Int) + (j : Int)) / 2) = ((i : Int) + (j : Int)) / 2 := by rw [IntKind.wrap_i64]; omega
        have ec2 : ((a : Int)).toNat = a := by omega
        have pc2 : (0 : Int) ≤ (a : Int) := by omega
        have bc2 : (a : Int) < (d.size : Int) := by omega
        have rc2 : IntKind.i64.wrap ((a : Int)) = (a : Int) := by rw [IntKind.wrap_i64]; omega
        obtain ⟨x2, hx2⟩ : ∃ x, x = d[(i + j) / 2]! := ⟨_, rfl⟩
        obtain ⟨y2, hy2⟩ : ∃ x, x = d[a]! := ⟨_, rfl⟩
        have l2a : ∀ n os, (grow (wr.drewN n) os).cell? ⟨blk, off + ((i + j) / 2) * 2, none⟩ = some (.int .i64 x2.1.1) := fun n os => by rw [hx2]; exact (cells2 (S1.out.grown n os) R (by omega) ((i + j) / 2) (by omega)).1
        have m2a : ∀ n os, (grow (wr.drewN n) os).cell? ⟨blk, off + ((i + j) / 2) * 2 + 1, none⟩ = some (.slice x2.1.2.1 x2.1.2.2.1 x2.1.2.2.2) := fun n os => by rw [hx2]; exact (cells2 (S1.out.grown n os) R (by omega) ((i + j) / 2) (by omega)).2.1
        have l2c : ∀ n os, (grow (wr.drewN n) os).cell? ⟨blk, off + (a) * 2, none⟩ = some (.int .i64 y2.1.1) := fun n os => by rw [hy2]; exact (cells2 (S1.out.grown n os) R (by omega) (a) (by omega)).1
        have m2c : ∀ n os, (grow (wr.drewN n) os).cell? ⟨blk, off + (a) * 2 + 1, none⟩ = some (.slice y2.1.2.1 y2.1.2.2.1 y2.1.2.2.2) := fun n os => by rw [hy2]; exact (cells2 (S1.out.grown n os) R (by omega) (a) (by omega)).2.1
        have k2a : ∀ n os, Sem.run Tryd.prog (loadCellsFrom ⟨blk, off + ((i + j) / 2) * 2, none⟩ 0 2 #[]) (grow (wr.drewN n) os) = .ok #[.int .i64 x2.1.1, .slice x2.1.2.1 x2.1.2.2.1 x2.1.2.2.2] (grow (wr.drewN n) os) := fun n os => by rw [hx2]; exact S1.out.ld R (by omega) Tryd.prog ((i + j) / 2) (by omega) n os
        have k2c : ∀ n os, Sem.run Tryd.prog (loadCellsFrom ⟨blk, off + (a) * 2, none⟩ 0 2 #[]) (grow (wr.drewN n) os) = .ok #[.int .i64 y2.1.1, .slice y2.1.2.1 y2.1.2.2.1 y2.1.2.2.2] (grow (wr.drewN n) os) := fun n os => by rw [hy2]; exact S1.out.ld R (by omega) Tryd.prog (a) (by omega) n os
        have hc2 : ∀ n os, Calls Tryd.prog 21 #[.agg #[.int .i64 x2.1.1, .slice x2.1.2.1 x2.1.2.2.1 x2.1.2.2.2], .agg #[.int .i64 y2.1.1, .slice y2.1.2.1 y2.1.2.2.1 y2.1.2.2.2]] (grow (wr.drewN n) os) _ := fun n os => closure_at x2 y2 (grow (wr.drewN n) os)
        have hv2 : ¬ cf x2 y2 < 0 := by rw [hx2, hy2]; exact cf_not hlv
        have hd2 : decide (cf x2 y2 < 0) = false := decide_eq_false hv2
        clear hx2 hy2
        generalize cf x2 y2 = v2 at hc2 hv2 hd2
        go_wp2_with fail
        go_quiet_grown (first | (go_at_call 21; refine Calls.grown_of (hc2 _ _)))
        have S3 : Aside (S2 w0 blk off d (grow (wr.drewN nq) osq)) := S1.out.grown nq osq
        clear l2a m2a l2c m2c k2a k2c hc2 S1
        generalize grow (wr.drewN nq) osq = w2 at S3 ⊢
        clear nq osq
        go_wp2
        go_roundg ((i + j) / 2 - i)
        case measure => omega
        case rel =>
          refine ⟨i, (i + j) / 2, rfl, by first | rfl | (congr 1; done) | (congr 1; omega), hi, by omega, by omega, Nat.le_refl _, ⟨H.out.1, fun x h1 h2 => ?_⟩, S3⟩
          by_cases hx : x = (i + j) / 2
          · rw [hx]; exact HL.out
          · exact HO.out.ntrans _ _ _ (HR.out ((i + j) / 2) x (by omega) (by omega) h2) HL.out
    · have hltz : ¬ (i : Int) < j := by omega
      go_wp2_with fail
      go_loopg [13] (b - a) (fun kx s13 wr => ∃ (k : Nat) (dk : Array (Gv × Nat)), s13 = .int .i64 k ∧ a ≤ k ∧ k ≤ i - 1 ∧ i - 1 - k ≤ kx ∧ Hid (dk.size = d.size ∧ Sl a k d dk ∧ PermIn a b d dk) ∧ Aside (S2 w0 blk off dk wr))
      case atStart => exact ⟨a, d, rfl, Nat.le_refl _, by omega, by omega, ⟨rfl, Sl.zero a d, permIn_refl _ _ _⟩, S1⟩
      case round =>
        clear S1
        obtain ⟨k, dk, rfl, hak, hki, hkx2, H2, S1⟩ := hrel
        by_cases hlt2 : k < i - 1
        · have hl2z : (k : Int) < (i : Int) - 1 := by omega
          have hds := H2.out.1
          go_wp2_with fail
          have ea3 : ((k : Int)).toNat = k := by omega
          have pa3 : (0 : Int) ≤ (k : Int) := by omega
          have ba3 : (k : Int) < (d.size : Int) := by omega
          have ra3 : IntKind.i64.wrap ((k : Int)) = (k : Int) := by rw [IntKind.wrap_i64]; omega
          have ec3 : ((k : Int) + 1).toNat = k + 1 := by omega
          have pc3 : (0 : Int) ≤ (k : Int) + 1 := by omega
          have bc3 : (k : Int) + 1 < (d.size : Int) := by omega
          have rc3 : IntKind.i64.wrap ((k : Int) + 1) = (k : Int) + 1 := by rw [IntKind.wrap_i64]; omega
          have S3 : Aside (S2 w0 blk off (swp dk (k) (k + 1)) ((wr.setCells blk (off + (k) * 2) (enc dk[k + 1]!)).setCells blk (off + (k + 1) * 2) (enc dk[k]!)).drew) := (S1.out.swap R.hk R.hblk (k) (k + 1) (by omega) (by omega)).drew
          obtain ⟨l3a, m3a, f3a, g3a⟩ := cells2 S1.out R (by omega) (k) (by omega)
          obtain ⟨l3c, m3c, f3c, g3c⟩ := cells2 S1.out R (by omega) (k + 1) (by omega)
          generalize dk[k]! = X3 at S3 l3a m3a
          generalize dk[k + 1]! = Y3 at S3 l3c m3c
          have q31 : ¬ off + (k + 1) * 2 = off + (k) * 2 := by omega
          have q32 : ¬ off + (k + 1) * 2 = off + (k) * 2 + 1 := by omega
          have q33 : ¬ off + (k + 1) * 2 + 1 = off + (k) * 2 := by omega
          have q34 : ¬ off + (k + 1) * 2 + 1 = off + (k) * 2 + 1 := by omega
          have q35 : ¬ off + (k) * 2 = off + (k + 1) * 2 := by omega
          have q36 : ¬ off + (k) * 2 + 1 = off + (k + 1) * 2 := by omega
          clear S1
          go_wp2_with fail
          go_region
          clear l3a m3a f3a g3a l3c m3c f3c g3c
          change Aside (S2 w0 blk off _ ((((wr.setCell ⟨blk, off + (k) * 2, none⟩ _).setCell ⟨blk, off + (k) * 2 + 1, none⟩ _).setCell ⟨blk, off + (k + 1) * 2, none⟩ _).setCell ⟨blk, off + (k + 1) * 2 + 1, none⟩ _).drew) at S3
          generalize ((((wr.setCell ⟨blk, off + (k) * 2, none⟩ _).setCell ⟨blk, off + (k) * 2 + 1, none⟩ _).setCell ⟨blk, off + (k + 1) * 2, none⟩ _).setCell ⟨blk, off + (k + 1) * 2 + 1, none⟩ _).drew = w2 at S3 ⊢
          go_wp2
          go_roundg (i - 1 - (k + 1))
          case measure => omega
          case rel => exact ⟨k + 1, _, by go_num, by omega, by omega, Nat.le_refl _, ⟨by rw [size_swp]; exact hds, H2.out.2.1.step hak (by omega), Sr.perm (n := 0) H2.out.2.2 hak (by omega) (by omega) (by omega) hb⟩, S3⟩
        · have hl2z : ¬ (k : Int) < (i : Int) - 1 := by omega
          have hk : k = i - 1 := by omega
          have hij' : i = j := by omega
          go_wp2
          (try simp only [Exit.inBlock, Exit.then]); refine bodyPost_ret (results_none rfl _ _ _) rfl ?_
          refine ⟨rfl, dk, H2.out.2.2, merge_left HO.out (i := i) HR.out hi (by omega) H.out.1 (fun x h1 h2 => H.out.2 x (by omega) h2) ?_, S1.out⟩
          rw [← hk]
          exact H2.out.2.1
set_option maxHeartbeats 16000000 in
set_option maxRecDepth 1000000 in
/-- One element on the right. -/
theorem sym_right (T : Gv × Nat → Gv × Nat → Bool) (hO : SWO T) (blk off cap a m : Nat) (d0 d : Array (Gv × Nat)) (w0 w : World) (R : R2 w0 blk off d0) (hs : d0.size = d.size) (S : S2 w0 blk off d w) (ham : a + 1 < m) (hb : m + 1 ≤ d.size) (hsz : d.size < 4611686018427387904)
    (hr : SortedIn T a m d) (hf : Fair (ltOf cf) T a m (m + 1) d) :
    Calls Tryd.prog 53 #[.slice (some ⟨blk, off, none⟩) d.size cap, .int .i64 a, .int .i64 m, .int .i64 ((m : Int) + 1), fnv] w fun e w' => e = .returned (.tuple #[]) ∧ ∃ d', PermIn a (m + 1) d d' ∧ SortedIn T a (m + 1) d' ∧ S2 w0 blk off d' w' := by
  have mixed := mixedP; have tR := tR; have aR := aR; have zR := zR; have aE := aE; have zE := zE; have tI := tI; have aI := aI; have zI := zI
  have S0 : Aside (S2 w0 blk off d w) := S
  have HR : Hid (SortedIn T a m d) := hr
  have HF : Hid (Fair (ltOf cf) T a m (m + 1) d) := hf
  have HO : Hid (SWO T) := hO
  clear S hr hf hO
  have h1 : (((m : Int) - (a : Int)) == 1) = false := by rw [beq_eq_false_iff_ne]; omega
  have h2 : (((m : Int) + 1 - (m : Int)) == 1) = true := by rw [beq_iff_eq]; omega
  go_enter Tryd.func53, Tryd.ntmps53
  go_wp2
  go_loopg [14, 15] (m - a) (fun kx s10 s11 wr => ∃ (i j : Nat), s10 = .int .i64 i ∧ s11 = .int .i64 j ∧ a ≤ i ∧ i ≤ j ∧ j ≤ m ∧ j - i ≤ kx ∧ Hid ((∀ x, a ≤ x → x < i → T d[m]! d[x]! = false) ∧ (∀ x, j ≤ x → x < m → T d[m]! d[x]! = true)) ∧ Aside (S2 w0 blk off d wr))
  case atStart => exact ⟨a, m, rfl, rfl, Nat.le_refl _, by omega, Nat.le_refl _, by omega, ⟨fun x h1 h2 => by omega, fun x h1 h2 => by omega⟩, S0⟩
  case round =>
    clear S0
    obtain ⟨i, j, rfl, rfl, hi, hij, hjb, hkx, H, S1⟩ := hrel
    by_cases hlt : i < j
    · have hltz : (i : Int) < j := by omega
      go_wp2_with fail
      have HFh : Hid (ltOf cf d[m]! d[(i + j) / 2]! = T d[m]! d[(i + j) / 2]!) := HF.out ((i + j) / 2) m (by omega) (by omega) (Nat.le_refl _) (by omega)
      cases hlv : ltOf cf d[m]! d[(i + j) / 2]! with
      | false =>
        have HL : Hid (T d[m]! d[(i + j) / 2]! = false) := by rw [← HFh.out]; exact hlv
        have ea1 : ((m : Int)).toNat = m := by omega
        have pa1 : (0 : Int) ≤ (m : Int) := by omega
        have ba1 : (m : Int) < (d.size : Int) := by omega
        have ra1 : IntKind.i64.wrap ((m : Int)) = (m : Int) := by rw [IntKind.wrap_i64]; omega
        have ec1 : (((i : Int) + (j : Int)) / 2).toNat = (i + j) / 2 := by omega
        have pc1 : (0 : Int) ≤ ((i : Int) + (j : Int)) / 2 := by omega
        have bc1 : ((i : Int) + (j : Int)) / 2 < (d.size : Int) := by omega
        have rc1 : IntKind.i64.wrap (((i : Int) + (j : Int)) / 2) = ((i : Int) + (j : Int)) / 2 := by rw [IntKind.wrap_i64]; omega
        obtain ⟨x1, hx1⟩ : ∃ x, x = d[m]! := ⟨_, rfl⟩
        obtain ⟨y1, hy1⟩ : ∃ x, x = d[(i + j) / 2]! := ⟨_, rfl⟩
        have l1a : ∀ n os, (grow (wr.drewN n) os).cell? ⟨blk, off + (m) * 2, none⟩ = some (.int .i64 x1.1.1) := fun n os => by rw [hx1]; exact (cells2 (S1.out.grown n os) R (by omega) (m) (by omega)).1
        have m1a : ∀ n os, (grow (wr.drewN n) os).cell? ⟨blk, off + (m) * 2 + 1, none⟩ = some (.slice x1.1.2.1 x1.1.2.2.1 x1.1.2.2.2) := fun n os => by rw [hx1]; exact (cells2 (S1.out.grown n os) R (by omega) (m) (by omega)).2.1
        have l1c : ∀ n os, (grow (wr.drewN n) os).cell? ⟨blk, off + ((i + j) / 2) * 2, none⟩ = some (.int .i64 y1.1.1) := fun n os => by rw [hy1]; exact (cells2 (S1.out.grown n os) R (by omega) ((i + j) / 2) (by omega)).1
        have m1c : ∀ n os, (grow (wr.drewN n) os).cell? ⟨blk, off + ((i + j) / 2) * 2 + 1, none⟩ = some (.slice y1.1.2.1 y1.1.2.2.1 y1.1.2.2.2) := fun n os => by rw [hy1]; exact (cells2 (S1.out.grown n os) R (by omega) ((i + j) / 2) (by omega)).2.1
        have k1a : ∀ n os, Sem.run Tryd.prog (loadCellsFrom ⟨blk, off + (m) * 2, none⟩ 0 2 #[]) (grow (wr.drewN n) os) = .ok #[.int .i64 x1.1.1, .slice x1.1.2.1 x1.1.2.2.1 x1.1.2.2.2] (grow (wr.drewN n) os) := fun n os => by rw [hx1]; exact S1.out.ld R (by omega) Tryd.prog (m) (by omega) n os
        have k1c : ∀ n os, Sem.run Tryd.prog (loadCellsFrom ⟨blk, off + ((i + j) / 2) * 2, none⟩ 0 2 #[]) (grow (wr.drewN n) os) = .ok #[.int .i64 y1.1.1, .slice y1.1.2.1 y1.1.2.2.1 y1.1.2.2.2] (grow (wr.drewN n) os) := fun n os => by rw [hy1]; exact S1.out.ld R (by omega) Tryd.prog ((i + j) / 2) (by omega) n os
        have hc1 : ∀ n os, Calls Tryd.prog 21 #[.agg #[.int .i64 x1.1.1, .slice x1.1.2.1 x1.1.2.2.1 x1.1.2.2.2], .agg #[.int .i64 y1.1.1, .slice y1.1.2.1 y1.1.2.2.1 y1.1.2.2.2]] (grow (wr.drewN n) os) _ := fun n os => closure_at x1 y1 (grow (wr.drewN n) os)
        have hv1 : ¬ cf x1 y1 < 0 := by rw [hx1, hy1]; exact cf_not hlv
        have hd1 : decide (cf x1 y1 < 0) = false := decide_eq_false hv1
        clear hx1 hy1
        generalize cf x1 y1 = v1 at hc1 hv1 hd1
        go_wp2_with fail
        go_quiet_grown (first | (go_at_call 21; refine Calls.grown_of (hc1 _ _)))
        have S3 : Aside (S2 w0 blk off d (grow (wr.drewN nq) osq)) := S1.out.grown nq osq
        clear l1a m1a l1c m1c k1a k1c hc1 S1
        generalize grow (wr.drewN nq) osq = w2 at S3 ⊢
        clear nq osq
        go_wp2
        go_roundg (j - ((i + j) / 2 + 1))
        case measure => omega
        case rel =>
          refine ⟨(i + j) / 2 + 1, j, by first | rfl | (congr 1; done) | (congr 1; omega), rfl, by omega, by omega, hjb, Nat.le_refl _, ⟨fun x h1 h2 => ?_, H.out.2⟩, S3⟩
          by_cases hx : x = (i + j) / 2
          · rw [hx]; exact HL.out
          · exact HO.out.ntrans _ _ _ HL.out (HR.out x ((i + j) / 2) h1 (by omega) (by omega))
      | true =>
        have HL : Hid (T d[m]! d[(i + j) / 2]! = true) := by rw [← HFh.out]; exact hlv
        have ea2 : ((m : Int)).toNat = m := by omega
        have pa2 : (0 : Int) ≤ (m : Int) := by omega
        have ba2 : (m : Int) < (d.size : Int) := by omega
        have ra2 : IntKind.i64.wrap ((m : Int)) = (m : Int) := by rw [IntKind.wrap_i64]; omega
        have ec2 : (((i : Int) + (j : Int)) / 2).toNat = (i + j) / 2 := by omega
        have pc2 : (0 : Int) ≤ ((i : Int) + (j : Int)) / 2 := by omega
        have bc2 : ((i : Int) + (j : Int)) / 2 < (d.size : Int) := by omega
        have rc2 : IntKind.i64.wrap (((i : Int) + (j : Int)) / 2) = ((i : Int) + (j : Int)) / 2 := by rw [IntKind.wrap_i64]; omega
        obtain ⟨x2, hx2⟩ : ∃ x, x = d[m]! := ⟨_, rfl⟩
        obtain ⟨y2, hy2⟩ : ∃ x, x = d[(i + j) / 2]! := ⟨_, rfl⟩
        have l2a : ∀ n os, (grow (wr.drewN n) os).cell? ⟨blk, off + (m) * 2, none⟩ = some (.int .i64 x2.1.1) := fun n os => by rw [hx2]; exact (cells2 (S1.out.grown n os) R (by omega) (m) (by omega)).1
        have m2a : ∀ n os, (grow (wr.drewN n) os).cell? ⟨blk, off + (m) * 2 + 1, none⟩ = some (.slice x2.1.2.1 x2.1.2.2.1 x2.1.2.2.2) := fun n os => by rw [hx2]; exact (cells2 (S1.out.grown n os) R (by omega) (m) (by omega)).2.1
        have l2c : ∀ n os, (grow (wr.drewN n) os).cell? ⟨blk, off + ((i + j) / 2) * 2, none⟩ = some (.int .i64 y2.1.1) := fun n os => by rw [hy2]; exact (cells2 (S1.out.grown n os) R (by omega) ((i + j) / 2) (by omega)).1
        have m2c : ∀ n os, (grow (wr.drewN n) os).cell? ⟨blk, off + ((i + j) / 2) * 2 + 1, none⟩ = some (.slice y2.1.2.1 y2.1.2.2.1 y2.1.2.2.2) := fun n os => by rw [hy2]; exact (cells2 (S1.out.grown n os) R (by omega) ((i + j) / 2) (by omega)).2.1
        have k2a : ∀ n os, Sem.run Tryd.prog (loadCellsFrom ⟨blk, off + (m) * 2, none⟩ 0 2 #[]) (grow (wr.drewN n) os) = .ok #[.int .i64 x2.1.1, .slice x2.1.2.1 x2.1.2.2.1 x2.1.2.2.2] (grow (wr.drewN n) os) := fun n os => by rw [hx2]; exact S1.out.ld R (by omega) Tryd.prog (m) (by omega) n os
        have k2c : ∀ n os, Sem.run Tryd.prog (loadCellsFrom ⟨blk, off + ((i + j) / 2) * 2, none⟩ 0 2 #[]) (grow (wr.drewN n) os) = .ok #[.int .i64 y2.1.1, .slice y2.1.2.1 y2.1.2.2.1 y2.1.2.2.2] (grow (wr.drewN n) os) := fun n os => by rw [hy2]; exact S1.out.ld R (by omega) Tryd.prog ((i + j) / 2) (by omega) n os
        have hc2 : ∀ n os, Calls Tryd.prog 21 #[.agg #[.int .i64 x2.1.1, .slice x2.1.2.1 x2.1.2.2.1 x2.1.2.2.2], .agg #[.int .i64 y2.1.1, .slice y2.1.2.1 y2.1.2.2.1 y2.1.2.2.2]] (grow (wr.drewN n) os) _ := fun n os => closure_at x2 y2 (grow (wr.drewN n) os)
        have hv2 : cf x2 y2 < 0 := by rw [hx2, hy2]; exact cf_neg hlv
        have hd2 : decide (cf x2 y2 < 0) = true := decide_eq_true hv2
        clear hx2 hy2
        generalize cf x2 y2 = v2 at hc2 hv2 hd2
        go_wp2_with fail
        go_quiet_grown (first | (go_at_call 21; refine Calls.grown_of (hc2 _ _)))
        have S3 : Aside (S2 w0 blk off d (grow (wr.drewN nq) osq)) := S1.out.grown nq osq
        clear l2a m2a l2c m2c k2a k2c hc2 S1
        generalize grow (wr.drewN nq) osq = w2 at S3 ⊢
        clear nq osq
        go_wp2
        go_roundg ((i + j) / 2 - i)
        case measure => omega
        case rel =>
          refine ⟨i, (i + j) / 2, rfl, by first | rfl | (congr 1; done) | (congr 1; omega), hi, by omega, by omega, Nat.le_refl _, ⟨H.out.1, fun x h1 h2 => ?_⟩, S3⟩
          by_cases hx : x = (i + j) / 2
          · rw [hx]; exact HL.out
          · cases ht : T d[m]! d[x]! with
            | true => rfl
            | false =>
              have := HO.out.ntrans _ _ _ ht (HR.out ((i + j) / 2) x (by omega) (by omega) h2)
              rw [HL.out] at this
              cases this
    · have hltz : ¬ (i : Int) < j := by omega
      go_wp2_with fail
      go_loopg [17] (m - a) (fun kx s13 wr => ∃ (k : Nat) (dk : Array (Gv × Nat)), s13 = .int .i64 k ∧ i ≤ k ∧ k ≤ m ∧ k - i ≤ kx ∧ Hid (dk.size = d.size ∧ Sg k m d dk ∧ PermIn a (m + 1) d dk) ∧ Aside (S2 w0 blk off dk wr))
      case atStart => exact ⟨m, d, rfl, by omega, Nat.le_refl _, by omega, ⟨rfl, Sg.zero m d, permIn_refl _ _ _⟩, S1⟩
      case round =>
        clear S1
        obtain ⟨k, dk, rfl, hik, hkm, hkx2, H2, S1⟩ := hrel
        by_cases hlt2 : i < k
        · obtain ⟨k1, rfl⟩ : ∃ k1, k = k1 + 1 := ⟨k - 1, by omega⟩
          have hl2z : (i : Int) < (k1 : Int) + 1 := by omega
          have hds := H2.out.1
          go_wp2_with fail
          have ea3 : ((k1 : Int) + 1).toNat = k1 + 1 := by omega
          have pa3 : (0 : Int) ≤ (k1 : Int) + 1 := by omega
          have ba3 : (k1 : Int) + 1 < (d.size : Int) := by omega
          have ra3 : IntKind.i64.wrap ((k1 : Int) + 1) = (k1 : Int) + 1 := by rw [IntKind.wrap_i64]; omega
          have ec3 : ((k1 : Int)).toNat = k1 := by omega
          have pc3 : (0 : Int) ≤ (k1 : Int) := by omega
          have bc3 : (k1 : Int) < (d.size : Int) := by omega
          have rc3 : IntKind.i64.wrap ((k1 : Int)) = (k1 : Int) := by rw [IntKind.wrap_i64]; omega
          have S3 : Aside (S2 w0 blk off (swp dk (k1 + 1) (k1)) ((wr.setCells blk (off + (k1 + 1) * 2) (enc dk[k1]!)).setCells blk (off + (k1) * 2) (enc dk[k1 + 1]!)).drew) := (S1.out.swap R.hk R.hblk (k1 + 1) (k1) (by omega) (by omega)).drew
          obtain ⟨l3a, m3a, f3a, g3a⟩ := cells2 S1.out R (by omega) (k1 + 1) (by omega)
          obtain ⟨l3c, m3c, f3c, g3c⟩ := cells2 S1.out R (by omega) (k1) (by omega)
          generalize dk[k1 + 1]! = X3 at S3 l3a m3a
          generalize dk[k1]! = Y3 at S3 l3c m3c
          have q31 : ¬ off + (k1) * 2 = off + (k1 + 1) * 2 := by omega
          have q32 : ¬ off + (k1) * 2 = off + (k1 + 1) * 2 + 1 := by omega
          have q33 : ¬ off + (k1) * 2 + 1 = off + (k1 + 1) * 2 := by omega
          have q34 : ¬ off + (k1) * 2 + 1 = off + (k1 + 1) * 2 + 1 := by omega
          have q35 : ¬ off + (k1 + 1) * 2 = off + (k1) * 2 := by omega
          have q36 : ¬ off + (k1 + 1) * 2 + 1 = off + (k1) * 2 := by omega
          clear S1
          go_wp2_with fail
          go_region
          clear l3a m3a f3a g3a l3c m3c f3c g3c
          change Aside (S2 w0 blk off _ ((((wr.setCell ⟨blk, off + (k1 + 1) * 2, none⟩ _).setCell ⟨blk, off + (k1 + 1) * 2 + 1, none⟩ _).setCell ⟨blk, off + (k1) * 2, none⟩ _).setCell ⟨blk, off + (k1) * 2 + 1, none⟩ _).drew) at S3
          generalize ((((wr.setCell ⟨blk, off + (k1 + 1) * 2, none⟩ _).setCell ⟨blk, off + (k1 + 1) * 2 + 1, none⟩ _).setCell ⟨blk, off + (k1) * 2, none⟩ _).setCell ⟨blk, off + (k1) * 2 + 1, none⟩ _).drew = w2 at S3 ⊢
          go_wp2
          go_roundg (k1 - i)
          case measure => omega
          case rel => exact ⟨k1, _, by first | rfl | go_num | (congr 1; omega), by omega, by omega, Nat.le_refl _, ⟨by rw [size_swp]; exact hds, H2.out.2.1.step hkm (by omega), Sr.perm (n := 0) H2.out.2.2 (by omega) (by omega) (by omega) (by omega) hb⟩, S3⟩
        · have hl2z : ¬ (i : Int) < (k : Int) := by omega
          have hk : k = i := by omega
          have hij' : i = j := by omega
          go_wp2
          (try simp only [Exit.inBlock, Exit.then]); refine bodyPost_ret (results_none rfl _ _ _) rfl ?_
          refine ⟨rfl, dk, H2.out.2.2, merge_right HO.out (i := i) HR.out hi (by omega) H.out.1 (fun x h1 h2 => H.out.2 x (by omega) h2) ?_, S1.out⟩
          rw [← hk]
          exact H2.out.2.1
end Go.Proofs.YtkldnapbeebdkaaDoor.st
/- Groups in a row: two sorted parts merged where they stand, whatever they are. -/
namespace Go.Proofs.YtkldnapbeebdkaaDoor.st
set_option linter.unusedVariables false
open Go.Shelf Go.RowKit Go.Lib Go.Sort
open mem
theorem half_left {α : Type} [Inhabited α] {T : α → α → Bool} {a s mid : Nat} {d : Array α} (h1 : SortedIn T a s d) (h2 : SortedIn T s mid d) (h : ¬ (a < s ∧ s < mid)) (has : a ≤ s) : SortedIn T a mid d := by
  by_cases hs : a < s
  · intro i j p q r; exact h1 i j p q (by omega)
  · intro i j p q r; exact h2 i j (by omega) q r
theorem half_right {α : Type} [Inhabited α] {T : α → α → Bool} {mid e b : Nat} {d : Array α} (h1 : SortedIn T mid e d) (h2 : SortedIn T e b d) (h : ¬ (mid < e ∧ e < b)) (heb : e ≤ b) : SortedIn T mid b d := by
  by_cases hs : mid < e
  · intro i j p q r; exact h1 i j p q (by omega)
  · intro i j p q r; exact h2 i j (by omega) q r
theorem Rt.none {α : Type} [Inhabited α] {s m e : Nat} (d : Array α) (h : ¬ (s < m ∧ m < e)) (h1 : s ≤ m) (h2 : m ≤ e) : Rt s m e d d := by
  refine ⟨rfl, fun x => ?_⟩
  by_cases hs : s < m
  · rw [if_neg (by omega)]
    split
    · congr 1; omega
    · rfl
  · split
    · congr 1; omega
    · rw [if_neg (by omega)]
set_option maxHeartbeats 16000000 in
set_option maxRecDepth 1000000 in
theorem sym_a (T : Gv × Nat → Gv × Nat → Bool) (hO : SWO T) (blk off cap a m b : Nat) (d0 d : Array (Gv × Nat)) (w0 w : World) (R : R2 w0 blk off d0) (hs : d0.size = d.size) (S : S2 w0 blk off d w) (ham : a + 1 < m) (hmb : m + 1 < b) (hb : b ≤ d.size) (hsz : d.size < 4611686018427387904)
    (hl : SortedIn T a m d) (hr : SortedIn T m b d) (hf : Fair (ltOf cf) T a m b d)
    (hmid : (a + b) / 2 < m)
    (IH : ∀ (a' m' b' : Nat) (d' : Array (Gv × Nat)) (w' : World), b' - a' < b - a → d0.size = d'.size → S2 w0 blk off d' w' → a' < m' → m' < b' → b' ≤ d'.size → SortedIn T a' m' d' → SortedIn T m' b' d' → Fair (ltOf cf) T a' m' b' d' →
      Calls Tryd.prog 53 #[.slice (some ⟨blk, off, none⟩) d'.size cap, .int .i64 a', .int .i64 m', .int .i64 b', fnv] w' fun e w'' => e = .returned (.tuple #[]) ∧ ∃ d'', PermIn a' b' d' d'' ∧ SortedIn T a' b' d'' ∧ S2 w0 blk off d'' w'') :
    Calls Tryd.prog 53 #[.slice (some ⟨blk, off, none⟩) d.size cap, .int .i64 a, .int .i64 m, .int .i64 b, fnv] w fun e w' => e = .returned (.tuple #[]) ∧ ∃ d', PermIn a b d d' ∧ SortedIn T a b d' ∧ S2 w0 blk off d' w' := by
  have mixed := mixedP; have tR := tR; have aR := aR; have zR := zR; have aE := aE; have zE := zE; have tI := tI; have aI := aI; have zI := zI
  have S0 : Aside (S2 w0 blk off d w) := S
  have HL : Hid (SortedIn T a m d) := hl
  have HR : Hid (SortedIn T m b d) := hr
  have HF : Hid (Fair (ltOf cf) T a m b d) := hf
  have HO : Hid (SWO T) := hO
  have HI : Aside _ := IH
  clear S hl hr hf hO IH
  have h1 : (((m : Int) - (a : Int)) == 1) = false := by rw [beq_eq_false_iff_ne]; omega
  have h2 : (((b : Int) - (m : Int)) == 1) = false := by rw [beq_eq_false_iff_ne]; omega
  go_enter Tryd.func53, Tryd.ntmps53
  have hmz : ((a : Int) + (b : Int)) / 2 < (m : Int) := by omega
  go_wp2
  go_loopg [20, 21] (b - a) (fun kx s20 s21 wr => ∃ (s r : Nat), s20 = .int .i64 s ∧ s21 = .int .i64 r ∧ ((a + b) / 2 + m - b) ≤ s ∧ s ≤ r ∧ r ≤ ((a + b) / 2) ∧ r - s ≤ kx ∧ Hid ((s = ((a + b) / 2 + m - b) ∨ (a < s ∧ T d[(a + b) / 2 + m - s]! d[s - 1]! = false)) ∧ (r = ((a + b) / 2) ∨ T d[(a + b) / 2 + m - 1 - r]! d[r]! = true)) ∧ Aside (S2 w0 blk off d wr))
  case atStart => exact ⟨((a + b) / 2 + m - b), ((a + b) / 2), by first | rfl | (congr 1; done) | (congr 1; omega), by first | rfl | (congr 1; done) | (congr 1; omega), Nat.le_refl _, by omega, Nat.le_refl _, by omega, ⟨Or.inl rfl, Or.inl rfl⟩, S0⟩
  case round =>
    clear S0
    obtain ⟨s, r, rfl, rfl, hs0, hsr, hr0, hkx, H, S1⟩ := hrel
    by_cases hlt : s < r
    · have hltz : (s : Int) < r := by omega
      clear HI
      go_wp2_with fail
      obtain ⟨pc, hpc⟩ : ∃ pc, pc = (a + b) / 2 + m - 1 - (s + r) / 2 := ⟨_, rfl⟩
      have hpcz : ((a : Int) + (b : Int)) / 2 + (m : Int) - 1 - ((s : Int) + (r : Int)) / 2 = (pc : Int) := by omega
      have hpc1 : m ≤ pc := by omega
      have hpc2 : pc < b := by omega
      have HPC : Hid (pc = (a + b) / 2 + m - 1 - (s + r) / 2) := hpc
      clear hpc
      have HFh : Hid (ltOf cf d[pc]! d[(s + r) / 2]! = T d[pc]! d[(s + r) / 2]!) := HF.out ((s + r) / 2) pc (by omega) (by omega) (by omega) (by omega)
      cases hlv : ltOf cf d[pc]! d[(s + r) / 2]! with
      | false =>
        have HT : Hid (T d[pc]! d[(s + r) / 2]! = false) := by rw [← HFh.out]; exact hlv
        have ea1 : ((pc : Int)).toNat = pc := by omega
        have pa1 : (0 : Int) ≤ (pc : Int) := by omega
        have ba1 : (pc : Int) < (d.size : Int) := by omega
        have ra1 : IntKind.i64.wrap ((pc : Int)) = (pc : Int) := by rw [IntKind.wrap_i64]; omega
        have ec1 : (((s : Int) + (r : Int)) / 2).toNat = (s + r) / 2 := by omega
        have pc1 : (0 : Int) ≤ ((s : Int) + (r : Int)) / 2 := by omega
        have bc1 : ((s : Int) + (r : Int)) / 2 < (d.size : Int) := by omega
        have rc1 : IntKind.i64.wrap (((s : Int) + (r : Int)) / 2) = ((s : Int) + (r : Int)) / 2 := by rw [IntKind.wrap_i64]; omega
        obtain ⟨x1, hx1⟩ : ∃ x, x = d[pc]! := ⟨_, rfl⟩
        obtain ⟨y1, hy1⟩ : ∃ x, x = d[(s + r) / 2]! := ⟨_, rfl⟩
        have l1a : ∀ n os, (grow (wr.drewN n) os).cell? ⟨blk, off + (pc) * 2, none⟩ = some (.int .i64 x1.1.1) := fun n os => by rw [hx1]; exact (cells2 (S1.out.grown n os) R (by omega) (pc) (by omega)).1
        have m1a : ∀ n os, (grow (wr.drewN n) os).cell? ⟨blk, off + (pc) * 2 + 1, none⟩ = some (.slice x1.1.2.1 x1.1.2.2.1 x1.1.2.2.2) := fun n os => by rw [hx1]; exact (cells2 (S1.out.grown n os) R (by omega) (pc) (by omega)).2.1
        have l1c : ∀ n os, (grow (wr.drewN n) os).cell? ⟨blk, off + ((s + r) / 2) * 2, none⟩ = some (.int .i64 y1.1.1) := fun n os => by rw [hy1]; exact (cells2 (S1.out.grown n os) R (by omega) ((s + r) / 2) (by omega)).1
        have m1c : ∀ n os, (grow (wr.drewN n) os).cell? ⟨blk, off + ((s + r) / 2) * 2 + 1, none⟩ = some (.slice y1.1.2.1 y1.1.2.2.1 y1.1.2.2.2) := fun n os => by rw [hy1]; exact (cells2 (S1.out.grown n os) R (by omega) ((s + r) / 2) (by omega)).2.1
        have k1a : ∀ n os, Sem.run Tryd.prog (loadCellsFrom ⟨blk, off + (pc) * 2, none⟩ 0 2 #[]) (grow (wr.drewN n) os) = .ok #[.int .i64 x1.1.1, .slice x1.1.2.1 x1.1.2.2.1 x1.1.2.2.2] (grow (wr.drewN n) os) := fun n os => by rw [hx1]; exact S1.out.ld R (by omega) Tryd.prog (pc) (by omega) n os
        have k1c : ∀ n os, Sem.run Tryd.prog (loadCellsFrom ⟨blk, off + ((s + r) / 2) * 2, none⟩ 0 2 #[]) (grow (wr.drewN n) os) = .ok #[.int .i64 y1.1.1, .slice y1.1.2.1 y1.1.2.2.1 y1.1.2.2.2] (grow (wr.drewN n) os) := fun n os => by rw [hy1]; exact S1.out.ld R (by omega) Tryd.prog ((s + r) / 2) (by omega) n os
        have hc1 : ∀ n os, Calls Tryd.prog 21 #[.agg #[.int .i64 x1.1.1, .slice x1.1.2.1 x1.1.2.2.1 x1.1.2.2.2], .agg #[.int .i64 y1.1.1, .slice y1.1.2.1 y1.1.2.2.1 y1.1.2.2.2]] (grow (wr.drewN n) os) _ := fun n os => closure_at x1 y1 (grow (wr.drewN n) os)
        have hv1 : ¬ cf x1 y1 < 0 := by rw [hx1, hy1]; exact cf_not hlv
        have hd1 : decide (cf x1 y1 < 0) = false := decide_eq_false hv1
        clear hx1 hy1
        generalize cf x1 y1 = v1 at hc1 hv1 hd1
        go_wp2_with fail
        go_quiet_grown (first | (go_at_call 21; refine Calls.grown_of (hc1 _ _)))
        have S3 : Aside (S2 w0 blk off d (grow (wr.drewN nq) osq)) := S1.out.grown nq osq
        clear l1a m1a l1c m1c k1a k1c hc1 S1
        generalize grow (wr.drewN nq) osq = w2 at S3 ⊢
        clear nq osq
        go_wp2
        go_roundg (r - ((s + r) / 2 + 1))
        case measure => omega
        case rel => exact ⟨(s + r) / 2 + 1, r, by first | rfl | (congr 1; done) | (congr 1; omega), rfl, by omega, by omega, hr0, Nat.le_refl _, ⟨Or.inr ⟨by omega, by rw [show (a + b) / 2 + m - ((s + r) / 2 + 1) = pc by have := HPC.out; omega]; exact HT.out⟩, H.out.2⟩, S3⟩
      | true =>
        have HT : Hid (T d[pc]! d[(s + r) / 2]! = true) := by rw [← HFh.out]; exact hlv
        have ea2 : ((pc : Int)).toNat = pc := by omega
        have pa2 : (0 : Int) ≤ (pc : Int) := by omega
        have ba2 : (pc : Int) < (d.size : Int) := by omega
        have ra2 : IntKind.i64.wrap ((pc : Int)) = (pc : Int) := by rw [IntKind.wrap_i64]; omega
        have ec2 : (((s : Int) + (r : Int)) / 2).toNat = (s + r) / 2 := by omega
        have pc2 : (0 : Int) ≤ ((s : Int) + (r : Int)) / 2 := by omega
        have bc2 : ((s : Int) + (r : Int)) / 2 < (d.size : Int) := by omega
        have rc2 : IntKind.i64.wrap (((s : Int) + (r : Int)) / 2) = ((s : Int) + (r : Int)) / 2 := by rw [IntKind.wrap_i64]; omega
        obtain ⟨x2, hx2⟩ : ∃ x, x = d[pc]! := ⟨_, rfl⟩
        obtain ⟨y2, hy2⟩ : ∃ x, x = d[(s + r) / 2]! := ⟨_, rfl⟩
        have l2a : ∀ n os, (grow (wr.drewN n) os).cell? ⟨blk, off + (pc) * 2, none⟩ = some (.int .i64 x2.1.1) := fun n os => by rw [hx2]; exact (cells2 (S1.out.grown n os) R (by omega) (pc) (by omega)).1
        have m2a : ∀ n os, (grow (wr.drewN n) os).cell? ⟨blk, off + (pc) * 2 + 1, none⟩ = some (.slice x2.1.2.1 x2.1.2.2.1 x2.1.2.2.2) := fun n os => by rw [hx2]; exact (cells2 (S1.out.grown n os) R (by omega) (pc) (by omega)).2.1
        have l2c : ∀ n os, (grow (wr.drewN n) os).cell? ⟨blk, off + ((s + r) / 2) * 2, none⟩ = some (.int .i64 y2.1.1) := fun n os => by rw [hy2]; exact (cells2 (S1.out.grown n os) R (by omega) ((s + r) / 2) (by omega)).1
        have m2c : ∀ n os, (grow (wr.drewN n) os).cell? ⟨blk, off + ((s + r) / 2) * 2 + 1, none⟩ = some (.slice y2.1.2.1 y2.1.2.2.1 y2.1.2.2.2) := fun n os => by rw [hy2]; exact (cells2 (S1.out.grown n os) R (by omega) ((s + r) / 2) (by omega)).2.1
        have k2a : ∀ n os, Sem.run Tryd.prog (loadCellsFrom ⟨blk, off + (pc) * 2, none⟩ 0 2 #[]) (grow (wr.drewN n) os) = .ok #[.int .i64 x2.1.1, .slice x2.1.2.1 x2.1.2.2.1 x2.1.2.2.2] (grow (wr.drewN n) os) := fun n os => by rw [hx2]; exact S1.out.ld R (by omega) Tryd.prog (pc) (by omega) n os
        have k2c : ∀ n os, Sem.run Tryd.prog (loadCellsFrom ⟨blk, off + ((s + r) / 2) * 2, none⟩ 0 2 #[]) (grow (wr.drewN n) os) = .ok #[.int .i64 y2.1.1, .slice y2.1.2.1 y2.1.2.2.1 y2.1.2.2.2] (grow (wr.drewN n) os) := fun n os => by rw [hy2]; exact S1.out.ld R (by omega) Tryd.prog ((s + r) / 2) (by omega) n os
        have hc2 : ∀ n os, Calls Tryd.prog 21 #[.agg #[.int .i64 x2.1.1, .slice x2.1.2.1 x2.1.2.2.1 x2.1.2.2.2], .agg #[.int .i64 y2.1.1, .slice y2.1.2.1 y2.1.2.2.1 y2.1.2.2.2]] (grow (wr.drewN n) os) _ := fun n os => closure_at x2 y2 (grow (wr.drewN n) os)
        have hv2 : cf x2 y2 < 0 := by rw [hx2, hy2]; exact cf_neg hlv
        have hd2 : decide (cf x2 y2 < 0) = true := decide_eq_true hv2
        clear hx2 hy2
        generalize cf x2 y2 = v2 at hc2 hv2 hd2
        go_wp2_with fail
        go_quiet_grown (first | (go_at_call 21; refine Calls.grown_of (hc2 _ _)))
        have S3 : Aside (S2 w0 blk off d (grow (wr.drewN nq) osq)) := S1.out.grown nq osq
        clear l2a m2a l2c m2c k2a k2c hc2 S1
        generalize grow (wr.drewN nq) osq = w2 at S3 ⊢
        clear nq osq
        go_wp2
        go_roundg ((s + r) / 2 - s)
        case measure => omega
        case rel => exact ⟨s, (s + r) / 2, rfl, by first | rfl | (congr 1; done) | (congr 1; omega), hs0, by omega, by omega, Nat.le_refl _, ⟨H.out.1, Or.inr (by rw [← HPC.out]; exact HT.out)⟩, S3⟩
    · have hltz : ¬ (s : Int) < r := by omega
      have hsr2 : r = s := by omega
      have C1 : Hid (s < m → m < (a + b) / 2 + m - s → T d[(a + b) / 2 + m - s - 1]! d[s]! = true) := fun p q => by
        rcases H.out.2 with h | h
        · omega
        · rw [hsr2] at h
          rw [show (a + b) / 2 + m - s - 1 = (a + b) / 2 + m - 1 - s by omega]
          exact h
      have C2 : Hid (a < s → (a + b) / 2 + m - s < b → T d[(a + b) / 2 + m - s]! d[s - 1]! = false) := fun p q => by
        rcases H.out.1 with h | h
        · omega
        · exact h.2
      clear H
      obtain ⟨e, he⟩ : ∃ e, e = (a + b) / 2 + m - s := ⟨_, rfl⟩
      rw [← he] at C1 C2
      have hez : (e : Int) = ((a : Int) + (b : Int)) / 2 + (m : Int) - (s : Int) := by omega
      have hmidz : (((a + b) / 2 : Nat) : Int) = ((a : Int) + (b : Int)) / 2 := by omega
      by_cases hr1 : s < m ∧ m < e
      · by_cases hl3 : a < s
        · by_cases hr3x : e < b
          · skip
            have hr1a : (s : Int) < (m : Int) := by omega
            have hr1b : (m : Int) < ((a : Int) + (b : Int)) / 2 + (m : Int) - (s : Int) := by omega
            have hl3a : (a : Int) < (s : Int) := by omega
            have hl3b : (s : Int) < ((a : Int) + (b : Int)) / 2 := by omega
            have hr3a : ((a : Int) + (b : Int)) / 2 < ((a : Int) + (b : Int)) / 2 + (m : Int) - (s : Int) := by omega
            have hr3b : ((a : Int) + (b : Int)) / 2 + (m : Int) - (s : Int) < (b : Int) := by omega
            go_wp2_with fail
            have c1 := rotate_at 21 #[] blk off cap s m e d0 d w0 wr R hs S1.out (by omega) (by omega) (by omega) hsz
            rw [hez] at c1
            refine Calls.mono c1 ?_
            rintro _ w2 ⟨rfl, d1, hrt, hp1, hS1⟩
            have HRt : Hid (Rt s m e d d1) := hrt
            have HP1 : Hid (PermIn a b d d1) := permIn_mono d d1 s e a b (by omega) (by omega) hb hp1
            have S4 : Aside (S2 w0 blk off d1 w2) := hS1
            clear hrt hp1 hS1 c1
            go_wp2_with fail
            have PL : Hid _ := parts_left (lt := ltOf cf) (s := s) (e := e) (mid := (a + b) / 2) HL.out HR.out HF.out (by omega) (by omega) (by omega) (by omega) (by omega) HRt.out
            have hz1 : d1.size = d.size := HP1.out.1
            have c2 := HI.out a s ((a + b) / 2) d1 w2 (by omega) (by omega) S4.out (by omega) (by omega) (by omega) PL.out.1 PL.out.2.1 PL.out.2.2.1
            rw [hmidz, hz1] at c2
            refine Calls.mono c2 ?_
            rintro _ w3 ⟨rfl, d2, hp2, hs2, hS2⟩
            have HP2 : Hid (PermIn a ((a + b) / 2) d1 d2) := hp2
            have HS2 : Hid (SortedIn T a ((a + b) / 2) d2) := hs2
            have S5 : Aside (S2 w0 blk off d2 w3) := hS2
            clear hp2 hs2 hS2 c2
            go_wp2_with fail
            have hz2 : d2.size = d.size := HP2.out.1.trans HP1.out.1
            have c3 := HI.out ((a + b) / 2) e b d2 w3 (by omega) (by omega) S5.out (by omega) (by omega) (by omega) (fun i j p q r => by rw [HP2.out.2.1 i (by omega), HP2.out.2.1 j (by omega)]; exact PL.out.2.2.2.1 i j p q r) (fun i j p q r => by rw [HP2.out.2.1 i (by omega), HP2.out.2.1 j (by omega)]; exact PL.out.2.2.2.2.1 i j p q r) (fun i j p q r t => by rw [HP2.out.2.1 i (by omega), HP2.out.2.1 j (by omega)]; exact PL.out.2.2.2.2.2 i j p q r t)
            rw [hmidz, hez, hz2] at c3
            refine Calls.mono c3 ?_
            rintro _ w4 ⟨rfl, d3, hp3, hs3, hS3⟩
            go_wp2_with fail
            go_end0
            obtain ⟨q1, q2⟩ := merge_main HO.out (s := s) (e := e) (mid := (a + b) / 2) hb HL.out HR.out (by omega) (by omega) (by omega) (by omega) (by omega) C1.out C2.out HRt.out HP1.out HP2.out HS2.out hp3 hs3
            exact ⟨rfl, d3, q1, q2, hS3⟩
          · skip
            have hr1a : (s : Int) < (m : Int) := by omega
            have hr1b : (m : Int) < ((a : Int) + (b : Int)) / 2 + (m : Int) - (s : Int) := by omega
            have hl3a : (a : Int) < (s : Int) := by omega
            have hl3b : (s : Int) < ((a : Int) + (b : Int)) / 2 := by omega
            have hr3a : ((a : Int) + (b : Int)) / 2 < ((a : Int) + (b : Int)) / 2 + (m : Int) - (s : Int) := by omega
            have hr3b : ¬ ((a : Int) + (b : Int)) / 2 + (m : Int) - (s : Int) < (b : Int) := by omega
            go_wp2_with fail
            have c1 := rotate_at 21 #[] blk off cap s m e d0 d w0 wr R hs S1.out (by omega) (by omega) (by omega) hsz
            rw [hez] at c1
            refine Calls.mono c1 ?_
            rintro _ w2 ⟨rfl, d1, hrt, hp1, hS1⟩
            have HRt : Hid (Rt s m e d d1) := hrt
            have HP1 : Hid (PermIn a b d d1) := permIn_mono d d1 s e a b (by omega) (by omega) hb hp1
            have S4 : Aside (S2 w0 blk off d1 w2) := hS1
            clear hrt hp1 hS1 c1
            go_wp2_with fail
            have PL : Hid _ := parts_left (lt := ltOf cf) (s := s) (e := e) (mid := (a + b) / 2) HL.out HR.out HF.out (by omega) (by omega) (by omega) (by omega) (by omega) HRt.out
            have hz1 : d1.size = d.size := HP1.out.1
            have c2 := HI.out a s ((a + b) / 2) d1 w2 (by omega) (by omega) S4.out (by omega) (by omega) (by omega) PL.out.1 PL.out.2.1 PL.out.2.2.1
            rw [hmidz, hz1] at c2
            refine Calls.mono c2 ?_
            rintro _ w3 ⟨rfl, d2, hp2, hs2, hS2⟩
            have HP2 : Hid (PermIn a ((a + b) / 2) d1 d2) := hp2
            have HS2 : Hid (SortedIn T a ((a + b) / 2) d2) := hs2
            have S5 : Aside (S2 w0 blk off d2 w3) := hS2
            clear hp2 hs2 hS2 c2
            go_wp2_with fail
            go_end0
            obtain ⟨q1, q2⟩ := merge_main HO.out (s := s) (e := e) (mid := (a + b) / 2) (d3 := d2) hb HL.out HR.out (by omega) (by omega) (by omega) (by omega) (by omega) C1.out C2.out HRt.out HP1.out HP2.out HS2.out (permIn_refl _ _ _) (half_right (fun i j p q r => by rw [HP2.out.2.1 i (by omega), HP2.out.2.1 j (by omega)]; exact PL.out.2.2.2.1 i j p q r) (fun i j p q r => by rw [HP2.out.2.1 i (by omega), HP2.out.2.1 j (by omega)]; exact PL.out.2.2.2.2.1 i j p q r) (by omega) (by omega))
            exact ⟨rfl, _, q1, q2, S5.out⟩
        · by_cases hr3x : e < b
          · skip
            have hr1a : (s : Int) < (m : Int) := by omega
            have hr1b : (m : Int) < ((a : Int) + (b : Int)) / 2 + (m : Int) - (s : Int) := by omega
            have hl3a : ¬ (a : Int) < (s : Int) := by omega
            have hr3a : ((a : Int) + (b : Int)) / 2 < ((a : Int) + (b : Int)) / 2 + (m : Int) - (s : Int) := by omega
            have hr3b : ((a : Int) + (b : Int)) / 2 + (m : Int) - (s : Int) < (b : Int) := by omega
            go_wp2_with fail
            have c1 := rotate_at 21 #[] blk off cap s m e d0 d w0 wr R hs S1.out (by omega) (by omega) (by omega) hsz
            rw [hez] at c1
            refine Calls.mono c1 ?_
            rintro _ w2 ⟨rfl, d1, hrt, hp1, hS1⟩
            have HRt : Hid (Rt s m e d d1) := hrt
            have HP1 : Hid (PermIn a b d d1) := permIn_mono d d1 s e a b (by omega) (by omega) hb hp1
            have S4 : Aside (S2 w0 blk off d1 w2) := hS1
            clear hrt hp1 hS1 c1
            go_wp2_with fail
            have PL : Hid _ := parts_left (lt := ltOf cf) (s := s) (e := e) (mid := (a + b) / 2) HL.out HR.out HF.out (by omega) (by omega) (by omega) (by omega) (by omega) HRt.out
            have HP2 : Hid (PermIn a ((a + b) / 2) d1 d1) := permIn_refl _ _ _
            have HS2 : Hid (SortedIn T a ((a + b) / 2) d1) := half_left PL.out.1 PL.out.2.1 (by omega) (by omega)
            have hz2 : d1.size = d.size := HP2.out.1.trans HP1.out.1
            have c3 := HI.out ((a + b) / 2) e b d1 w2 (by omega) (by omega) S4.out (by omega) (by omega) (by omega) (fun i j p q r => by rw [HP2.out.2.1 i (by omega), HP2.out.2.1 j (by omega)]; exact PL.out.2.2.2.1 i j p q r) (fun i j p q r => by rw [HP2.out.2.1 i (by omega), HP2.out.2.1 j (by omega)]; exact PL.out.2.2.2.2.1 i j p q r) (fun i j p q r t => by rw [HP2.out.2.1 i (by omega), HP2.out.2.1 j (by omega)]; exact PL.out.2.2.2.2.2 i j p q r t)
            rw [hmidz, hez, hz2] at c3
            refine Calls.mono c3 ?_
            rintro _ w4 ⟨rfl, d3, hp3, hs3, hS3⟩
            go_wp2_with fail
            go_end0
            obtain ⟨q1, q2⟩ := merge_main HO.out (s := s) (e := e) (mid := (a + b) / 2) hb HL.out HR.out (by omega) (by omega) (by omega) (by omega) (by omega) C1.out C2.out HRt.out HP1.out HP2.out HS2.out hp3 hs3
            exact ⟨rfl, d3, q1, q2, hS3⟩
          · skip
            have hr1a : (s : Int) < (m : Int) := by omega
            have hr1b : (m : Int) < ((a : Int) + (b : Int)) / 2 + (m : Int) - (s : Int) := by omega
            have hl3a : ¬ (a : Int) < (s : Int) := by omega
            have hr3a : ((a : Int) + (b : Int)) / 2 < ((a : Int) + (b : Int)) / 2 + (m : Int) - (s : Int) := by omega
            have hr3b : ¬ ((a : Int) + (b : Int)) / 2 + (m : Int) - (s : Int) < (b : Int) := by omega
            go_wp2_with fail
            have c1 := rotate_at 21 #[] blk off cap s m e d0 d w0 wr R hs S1.out (by omega) (by omega) (by omega) hsz
            rw [hez] at c1
            refine Calls.mono c1 ?_
            rintro _ w2 ⟨rfl, d1, hrt, hp1, hS1⟩
            have HRt : Hid (Rt s m e d d1) := hrt
            have HP1 : Hid (PermIn a b d d1) := permIn_mono d d1 s e a b (by omega) (by omega) hb hp1
            have S4 : Aside (S2 w0 blk off d1 w2) := hS1
            clear hrt hp1 hS1 c1
            go_wp2_with fail
            have PL : Hid _ := parts_left (lt := ltOf cf) (s := s) (e := e) (mid := (a + b) / 2) HL.out HR.out HF.out (by omega) (by omega) (by omega) (by omega) (by omega) HRt.out
            have HP2 : Hid (PermIn a ((a + b) / 2) d1 d1) := permIn_refl _ _ _
            have HS2 : Hid (SortedIn T a ((a + b) / 2) d1) := half_left PL.out.1 PL.out.2.1 (by omega) (by omega)
            go_end0
            obtain ⟨q1, q2⟩ := merge_main HO.out (s := s) (e := e) (mid := (a + b) / 2) (d3 := d1) hb HL.out HR.out (by omega) (by omega) (by omega) (by omega) (by omega) C1.out C2.out HRt.out HP1.out HP2.out HS2.out (permIn_refl _ _ _) (half_right (fun i j p q r => by rw [HP2.out.2.1 i (by omega), HP2.out.2.1 j (by omega)]; exact PL.out.2.2.2.1 i j p q r) (fun i j p q r => by rw [HP2.out.2.1 i (by omega), HP2.out.2.1 j (by omega)]; exact PL.out.2.2.2.2.1 i j p q r) (by omega) (by omega))
            exact ⟨rfl, _, q1, q2, S4.out⟩
      · skip
        have hr1a : (s : Int) < (m : Int) := by omega
        have hr1b : ¬ (m : Int) < ((a : Int) + (b : Int)) / 2 + (m : Int) - (s : Int) := by omega
        have hl3a : (a : Int) < (s : Int) := by omega
        have hl3b : ¬ (s : Int) < ((a : Int) + (b : Int)) / 2 := by omega
        have hr3a : ((a : Int) + (b : Int)) / 2 < ((a : Int) + (b : Int)) / 2 + (m : Int) - (s : Int) := by omega
        have hr3b : ((a : Int) + (b : Int)) / 2 + (m : Int) - (s : Int) < (b : Int) := by omega
        go_wp2_with fail
        have HRt : Hid (Rt s m e d d) := Rt.none d (by omega) (by omega) (by omega)
        have HP1 : Hid (PermIn a b d d) := permIn_refl _ _ _
        have PL : Hid _ := parts_left (lt := ltOf cf) (s := s) (e := e) (mid := (a + b) / 2) HL.out HR.out HF.out (by omega) (by omega) (by omega) (by omega) (by omega) HRt.out
        have HP2 : Hid (PermIn a ((a + b) / 2) d d) := permIn_refl _ _ _
        have HS2 : Hid (SortedIn T a ((a + b) / 2) d) := half_left PL.out.1 PL.out.2.1 (by omega) (by omega)
        have hz2 : d.size = d.size := HP2.out.1.trans HP1.out.1
        have c3 := HI.out ((a + b) / 2) e b d wr (by omega) (by omega) S1.out (by omega) (by omega) (by omega) (fun i j p q r => by rw [HP2.out.2.1 i (by omega), HP2.out.2.1 j (by omega)]; exact PL.out.2.2.2.1 i j p q r) (fun i j p q r => by rw [HP2.out.2.1 i (by omega), HP2.out.2.1 j (by omega)]; exact PL.out.2.2.2.2.1 i j p q r) (fun i j p q r t => by rw [HP2.out.2.1 i (by omega), HP2.out.2.1 j (by omega)]; exact PL.out.2.2.2.2.2 i j p q r t)
        rw [hmidz, hez, hz2] at c3
        refine Calls.mono c3 ?_
        rintro _ w4 ⟨rfl, d3, hp3, hs3, hS3⟩
        go_wp2_with fail
        go_end0
        obtain ⟨q1, q2⟩ := merge_main HO.out (s := s) (e := e) (mid := (a + b) / 2) hb HL.out HR.out (by omega) (by omega) (by omega) (by omega) (by omega) C1.out C2.out HRt.out HP1.out HP2.out HS2.out hp3 hs3
        exact ⟨rfl, d3, q1, q2, hS3⟩
end Go.Proofs.YtkldnapbeebdkaaDoor.st
