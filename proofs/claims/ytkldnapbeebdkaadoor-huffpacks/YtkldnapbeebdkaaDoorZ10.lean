/- Texts laid together: St5, St6. -/
import Derived.Test.YtkldnapbeebdkaaDoorZ9
/- Groups in a row: two sorted parts merged where they stand, whatever they are. -/
namespace Go.Proofs.YtkldnapbeebdkaaDoor.st
set_option linter.unusedVariables false
open Go.Shelf Go.RowKit Go.Lib Go.Sort
open mem
set_option maxHeartbeats 16000000 in
set_option maxRecDepth 1000000 in
theorem sym_b (T : Gv × Nat → Gv × Nat → Bool) (hO : SWO T) (blk off cap a m b : Nat) (d0 d : Array (Gv × Nat)) (w0 w : World) (R : R2 w0 blk off d0) (hs : d0.size = d.size) (S : S2 w0 blk off d w) (ham : a + 1 < m) (hmb : m + 1 < b) (hb : b ≤ d.size) (hsz : d.size < 4611686018427387904)
    (hl : SortedIn T a m d) (hr : SortedIn T m b d) (hf : Fair (ltOf cf) T a m b d)
    (hmid : ¬ (a + b) / 2 < m)
    (IH : ∀ (a' m' b' : Nat) (d' : Array (Gv × Nat)) (w' : World), b' - a' < b - a → d0.size = d'.size → S2 w0 blk off d' w' → a' < m' → m' < b' → b' ≤ d'.size → SortedIn T a' m' d' → SortedIn T m' b' d' → Fair (ltOf cf) T a' m' b' d' →
      Calls Tryd.prog 53 #[.slice (some ⟨blk, off, none⟩) d'.size cap, .int .i64 a', .int .i64 m', .int .i64 b', fnv] w' fun e w'' => e = .returned (.tuple #[]) ∧ ∃ d'', PermIn a' b' d' d'' ∧ SortedIn T a' b' d'' ∧ S2 w0 blk off d'' w'') :
    Calls Tryd.prog 53 #[.slice (some ⟨blk, off, none⟩) d.size cap, .int .i64 a, .int .i64 m, .int .i64 b, fnv] w fun e w' => e = .returned (.tuple #[]) ∧ ∃ d', PermIn a b d d' ∧ SortedIn T a b d' ∧ S2 w0 blk off d' w' := by
  have mixed := mixedP; have tR := tR; have aR := aR; have zR := zR; have aE := aE; have zE := zE; have tI := tI; have aI := aI; have zI := zI
  have S0 : Aside (S2 w0 blk off d w) := S
  have HL : Hid (SortedIn T a m d) := hl
  have HR : Hid (SortedIn T m b d) := hr
  have HF : Hid (Fair (ltOf cf) T a m b d) := hf
  have HO : Hid (SWO T) := hO
  have HI : Aside _ := IH
  clear S hl hr hf hO IH
  have h1 : (((m : Int) - (a : Int)) == 1) = false := by rw [beq_eq_false_iff_ne]; omega
  have h2 : (((b : Int) - (m : Int)) == 1) = false := by rw [beq_eq_false_iff_ne]; omega
  go_enter Tryd.func53, Tryd.ntmps53
  have hmz : ¬ ((a : Int) + (b : Int)) / 2 < (m : Int) := by omega
  go_wp2
  go_loopg [20, 21] (b - a) (fun kx s20 s21 wr => ∃ (s r : Nat), s20 = .int .i64 s ∧ s21 = .int .i64 r ∧ a ≤ s ∧ s ≤ r ∧ r ≤ m ∧ r - s ≤ kx ∧ Hid ((s = a ∨ (a < s ∧ T d[(a + b) / 2 + m - s]! d[s - 1]! = false)) ∧ (r = m ∨ T d[(a + b) / 2 + m - 1 - r]! d[r]! = true)) ∧ Aside (S2 w0 blk off d wr))
  case atStart => exact ⟨a, m, by first | rfl | (congr 1; done) | (congr 1; omega), by first | rfl | (congr 1; done) | (congr 1; omega), Nat.le_refl _, by omega, Nat.le_refl _, by omega, ⟨Or.inl rfl, Or.inl rfl⟩, S0⟩
  case round =>
    clear S0
    obtain ⟨s, r, rfl, rfl, hs0, hsr, hr0, hkx, H, S1⟩ := hrel
    by_cases hlt : s < r
    · have hltz : (s : Int) < r := by omega
      clear HI
      go_wp2_with fail
      obtain ⟨pc, hpc⟩ : ∃ pc, pc = (a + b) / 2 + m - 1 - (s + r) / 2 := ⟨_, rfl⟩
      have hpcz : ((a : Int) + (b : Int)) / 2 + (m : Int) - 1 - ((s : Int) + (r : Int)) / 2 = (pc : Int) := by omega
      have hpc1 : m ≤ pc := by omega
      have hpc2 : pc < b := by omega
      have HPC : Hid (pc = (a + b) / 2 + m - 1 - (s + r) / 2) := hpc
      clear hpc
      have HFh : Hid (ltOf cf d[pc]! d[(s + r) / 2]! = T d[pc]! d[(s + r) / 2]!) := HF.out ((s + r) / 2) pc (by omega) (by omega) (by omega) (by omega)
      cases hlv : ltOf cf d[pc]! d[(s + r) / 2]! with
      | false =>
        have HT : Hid (T d[pc]! d[(s + r) / 2]! = false) := by rw [← HFh.out]; exact hlv
        have ea1 : ((pc : Int)).toNat = pc := by omega
        have pa1 : (0 : Int) ≤ (pc : Int) := by omega
        have ba1 : (pc : Int) < (d.size : Int) := by omega
        have ra1 : IntKind.i64.wrap ((pc : Int)) = (pc : Int) := by rw [IntKind.wrap_i64]; omega
        have ec1 : (((s : Int) + (r : Int)) / 2).toNat = (s + r) / 2 := by omega
        have pc1 : (0 : Int) ≤ ((s : Int) + (r : Int)) / 2 := by omega
        have bc1 : ((s : Int) + (r : Int)) / 2 < (d.size : Int) := by omega
        have rc1 : IntKind.i64.wrap (((s : Int) + (r : Int)) / 2) = ((s : Int) + (r : Int)) / 2 := by rw [IntKind.wrap_i64]; omega
        obtain ⟨x1, hx1⟩ : ∃ x, x = d[pc]! := ⟨_, rfl⟩
        obtain ⟨y1, hy1⟩ : ∃ x, x = d[(s + r) / 2]! := ⟨_, rfl⟩
        have l1a : ∀ n os, (grow (wr.drewN n) os).cell? ⟨blk, off + (pc) * 2, none⟩ = some (.int .i64 x1.1.1) := fun n os => by rw [hx1]; exact (cells2 (S1.out.grown n os) R (by omega) (pc) (by omega)).1
        have m1a : ∀ n os, (grow (wr.drewN n) os).cell? ⟨blk, off + (pc) * 2 + 1, none⟩ = some (.slice x1.1.2.1 x1.1.2.2.1 x1.1.2.2.2) := fun n os => by rw [hx1]; exact (cells2 (S1.out.grown n os) R (by omega) (pc) (by omega)).2.1
        have l1c : ∀ n os, (grow (wr.drewN n) os).cell? ⟨blk, off + ((s + r) / 2) * 2, none⟩ = some (.int .i64 y1.1.1) := fun n os => by rw [hy1]; exact (cells2 (S1.out.grown n os) R (by omega) ((s + r) / 2) (by omega)).1
        have m1c : ∀ n os, (grow (wr.drewN n) os).cell? ⟨blk, off + ((s + r) / 2) * 2 + 1, none⟩ = some (.slice y1.1.2.1 y1.1.2.2.1 y1.1.2.2.2) := fun n os => by rw [hy1]; exact (cells2 (S1.out.grown n os) R (by omega) ((s + r) / 2) (by omega)).2.1
        have k1a : ∀ n os, Sem.run Tryd.prog (loadCellsFrom ⟨blk, off + (pc) * 2, none⟩ 0 2 #[]) (grow (wr.drewN n) os) = .ok #[.int .i64 x1.1.1, .slice x1.1.2.1 x1.1.2.2.1 x1.1.2.2.2] (grow (wr.drewN n) os) := fun n os => by rw [hx1]; exact S1.out.ld R (by omega) Tryd.prog (pc) (by omega) n os
        have k1c : ∀ n os, Sem.run Tryd.prog (loadCellsFrom ⟨blk, off + ((s + r) / 2) * 2, none⟩ 0 2 #[]) (grow (wr.drewN n) os) = .ok #[.int .i64 y1.1.1, .slice y1.1.2.1 y1.1.2.2.1 y1.1.2.2.2] (grow (wr.drewN n) os) := fun n os => by rw [hy1]; exact S1.out.ld R (by omega) Tryd.prog ((s + r) / 2) (by omega) n os
        have hc1 : ∀ n os, Calls Tryd.prog 21 #[.agg #[.int .i64 x1.1.1, .slice x1.1.2.1 x1.1.2.2.1 x1.1.2.2.2], .agg #[.int .i64 y1.1.1, .slice y1.1.2.1 y1.1.2.2.1 y1.1.2.2.2]] (grow (wr.drewN n) os) _ := fun n os => closure_at x1 y1 (grow (wr.drewN n) os)
        have hv1 : ¬ cf x1 y1 < 0 := by rw [hx1, hy1]; exact cf_not hlv
        have hd1 : decide (cf x1 y1 < 0) = false := decide_eq_false hv1
        clear hx1 hy1
        generalize cf x1 y1 = v1 at hc1 hv1 hd1
        go_wp2_with fail
        go_quiet_grown (first | (go_at_call 21; refine Calls.grown_of (hc1 _ _)))
        have S3 : Aside (S2 w0 blk off d (grow (wr.drewN nq) osq)) := S1.out.grown nq osq
        clear l1a m1a l1c m1c k1a k1c hc1 S1
        generalize grow (wr.drewN nq) osq = w2 at S3 ⊢
        clear nq osq
        go_wp2
        go_roundg (r - ((s + r) / 2 + 1))
        case measure => omega
        case rel => exact ⟨(s + r) / 2 + 1, r, by first | rfl | (congr 1; done) | (congr 1; omega), rfl, by omega, by omega, hr0, Nat.le_refl _, ⟨Or.inr ⟨by omega, by rw [show (a + b) / 2 + m - ((s + r) / 2 + 1) = pc by have := HPC.out; omega]; exact HT.out⟩, H.out.2⟩, S3⟩
      | true =>
        have HT : Hid (T d[pc]! d[(s + r) / 2]! = true) := by rw [← HFh.out]; exact hlv
        have ea2 : ((pc : Int)).toNat = pc := by omega
        have pa2 : (0 : Int) ≤ (pc : Int) := by omega
        have ba2 : (pc : Int) < (d.size : Int) := by omega
        have ra2 : IntKind.i64.wrap ((pc : Int)) = (pc : Int) := by rw [IntKind.wrap_i64]; omega
        have ec2 : (((s : Int) + (r : Int)) / 2).toNat = (s + r) / 2 := by omega
        have pc2 : (0 : Int) ≤ ((s : Int) + (r : Int)) / 2 := by omega
        have bc2 : ((s : Int) + (r : Int)) / 2 < (d.size : Int) := by omega
        have rc2 : IntKind.i64.wrap (((s : Int) + (r : Int)) / 2) = ((s : Int) + (r : Int)) / 2 := by rw [IntKind.wrap_i64]; omega
        obtain ⟨x2, hx2⟩ : ∃ x, x = d[pc]! := ⟨_, rfl⟩
        obtain ⟨y2, hy2⟩ : ∃ x, x = d[(s + r) / 2]! := ⟨_, rfl⟩
        have l2a : ∀ n os, (grow (wr.drewN n) os).cell? ⟨blk, off + (pc) * 2, none⟩ = some (.int .i64 x2.1.1) := fun n os => by rw [hx2]; exact (cells2 (S1.out.grown n os) R (by omega) (pc) (by omega)).1
        have m2a : ∀ n os, (grow (wr.drewN n) os).cell? ⟨blk, off + (pc) * 2 + 1, none⟩ = some (.slice x2.1.2.1 x2.1.2.2.1 x2.1.2.2.2) := fun n os => by rw [hx2]; exact (cells2 (S1.out.grown n os) R (by omega) (pc) (by omega)).2.1
        have l2c : ∀ n os, (grow (wr.drewN n) os).cell? ⟨blk, off + ((s + r) / 2) * 2, none⟩ = some (.int .i64 y2.1.1) := fun n os => by rw [hy2]; exact (cells2 (S1.out.grown n os) R (by omega) ((s + r) / 2) (by omega)).1
        have m2c : ∀ n os, (grow (wr.drewN n) os).cell? ⟨blk, off + ((s + r) / 2) * 2 + 1, none⟩ = some (.slice y2.1.2.1 y2.1.2.2.1 y2.1.2.2.2) := fun n os => by rw [hy2]; exact (cells2 (S1.out.grown n os) R (by omega) ((s + r) / 2) (by omega)).2.1
        have k2a : ∀ n os, Sem.run Tryd.prog (loadCellsFrom ⟨blk, off + (pc) * 2, none⟩ 0 2 #[]) (grow (wr.drewN n) os) = .ok #[.int .i64 x2.1.1, .slice x2.1.2.1 x2.1.2.2.1 x2.1.2.2.2] (grow (wr.drewN n) os) := fun n os => by rw [hx2]; exact S1.out.ld R (by omega) Tryd.prog (pc) (by omega) n os
        have k2c : ∀ n os, Sem.run Tryd.prog (loadCellsFrom ⟨blk, off + ((s + r) / 2) * 2, none⟩ 0 2 #[]) (grow (wr.drewN n) os) = .ok #[.int .i64 y2.1.1, .slice y2.1.2.1 y2.1.2.2.1 y2.1.2.2.2] (grow (wr.drewN n) os) := fun n os => by rw [hy2]; exact S1.out.ld R (by omega) Tryd.prog ((s + r) / 2) (by omega) n os
        have hc2 : ∀ n os, Calls Tryd.prog 21 #[.agg #[.int .i64 x2.1.1, .slice x2.1.2.1 x2.1.2.2.1 x2.1.2.2.2], .agg #[.int .i64 y2.1.1, .slice y2.1.2.1 y2.1.2.2.1 y2.1.2.2.2]] (grow (wr.drewN n) os) _ := fun n os => closure_at x2 y2 (grow (wr.drewN n) os)
        have hv2 : cf x2 y2 < 0 := by rw [hx2, hy2]; exact cf_neg hlv
        have hd2 : decide (cf x2 y2 < 0) = true := decide_eq_true hv2
        clear hx2 hy2
        generalize cf x2 y2 = v2 at hc2 hv2 hd2
        go_wp2_with fail
        go_quiet_grown (first | (go_at_call 21; refine Calls.grown_of (hc2 _ _)))
        have S3 : Aside (S2 w0 blk off d (grow (wr.drewN nq) osq)) := S1.out.grown nq osq
        clear l2a m2a l2c m2c k2a k2c hc2 S1
        generalize grow (wr.drewN nq) osq = w2 at S3 ⊢
        clear nq osq
        go_wp2
        go_roundg ((s + r) / 2 - s)
        case measure => omega
        case rel => exact ⟨s, (s + r) / 2, rfl, by first | rfl | (congr 1; done) | (congr 1; omega), hs0, by omega, by omega, Nat.le_refl _, ⟨H.out.1, Or.inr (by rw [← HPC.out]; exact HT.out)⟩, S3⟩
    · have hltz : ¬ (s : Int) < r := by omega
      have hsr2 : r = s := by omega
      have C1 : Hid (s < m → m < (a + b) / 2 + m - s → T d[(a + b) / 2 + m - s - 1]! d[s]! = true) := fun p q => by
        rcases H.out.2 with h | h
        · omega
        · rw [hsr2] at h
          rw [show (a + b) / 2 + m - s - 1 = (a + b) / 2 + m - 1 - s by omega]
          exact h
      have C2 : Hid (a < s → (a + b) / 2 + m - s < b → T d[(a + b) / 2 + m - s]! d[s - 1]! = false) := fun p q => by
        rcases H.out.1 with h | h
        · omega
        · exact h.2
      clear H
      obtain ⟨e, he⟩ : ∃ e, e = (a + b) / 2 + m - s := ⟨_, rfl⟩
      rw [← he] at C1 C2
      have hez : (e : Int) = ((a : Int) + (b : Int)) / 2 + (m : Int) - (s : Int) := by omega
      have hmidz : (((a + b) / 2 : Nat) : Int) = ((a : Int) + (b : Int)) / 2 := by omega
      by_cases hr1 : s < m ∧ m < e
      · by_cases hl3 : a < s
        · by_cases hr3x : e < b
          · skip
            have hr1a : (s : Int) < (m : Int) := by omega
            have hr1b : (m : Int) < ((a : Int) + (b : Int)) / 2 + (m : Int) - (s : Int) := by omega
            have hl3a : (a : Int) < (s : Int) := by omega
            have hl3b : (s : Int) < ((a : Int) + (b : Int)) / 2 := by omega
            have hr3a : ((a : Int) + (b : Int)) / 2 < ((a : Int) + (b : Int)) / 2 + (m : Int) - (s : Int) := by omega
            have hr3b : ((a : Int) + (b : Int)) / 2 + (m : Int) - (s : Int) < (b : Int) := by omega
            go_wp2_with fail
            have c1 := rotate_at 21 #[] blk off cap s m e d0 d w0 wr R hs S1.out (by omega) (by omega) (by omega) hsz
            rw [hez] at c1
            refine Calls.mono c1 ?_
            rintro _ w2 ⟨rfl, d1, hrt, hp1, hS1⟩
            have HRt : Hid (Rt s m e d d1) := hrt
            have HP1 : Hid (PermIn a b d d1) := permIn_mono d d1 s e a b (by omega) (by omega) hb hp1
            have S4 : Aside (S2 w0 blk off d1 w2) := hS1
            clear hrt hp1 hS1 c1
            go_wp2_with fail
            have PL : Hid _ := parts_left (lt := ltOf cf) (s := s) (e := e) (mid := (a + b) / 2) HL.out HR.out HF.out (by omega) (by omega) (by omega) (by omega) (by omega) HRt.out
            have hz1 : d1.size = d.size := HP1.out.1
            have c2 := HI.out a s ((a + b) / 2) d1 w2 (by omega) (by omega) S4.out (by omega) (by omega) (by omega) PL.out.1 PL.out.2.1 PL.out.2.2.1
            rw [hmidz, hz1] at c2
            refine Calls.mono c2 ?_
            rintro _ w3 ⟨rfl, d2, hp2, hs2, hS2⟩
            have HP2 : Hid (PermIn a ((a + b) / 2) d1 d2) := hp2
            have HS2 : Hid (SortedIn T a ((a + b) / 2) d2) := hs2
            have S5 : Aside (S2 w0 blk off d2 w3) := hS2
            clear hp2 hs2 hS2 c2
            go_wp2_with fail
            have hz2 : d2.size = d.size := HP2.out.1.trans HP1.out.1
            have c3 := HI.out ((a + b) / 2) e b d2 w3 (by omega) (by omega) S5.out (by omega) (by omega) (by omega) (fun i j p q r => by rw [HP2.out.2.1 i (by omega), HP2.out.2.1 j (by omega)]; exact PL.out.2.2.2.1 i j p q r) (fun i j p q r => by rw [HP2.out.2.1 i (by omega), HP2.out.2.1 j (by omega)]; exact PL.out.2.2.2.2.1 i j p q r) (fun i j p q r t => by rw [HP2.out.2.1 i (by omega), HP2.out.2.1 j (by omega)]; exact PL.out.2.2.2.2.2 i j p q r t)
            rw [hmidz, hez, hz2] at c3
            refine Calls.mono c3 ?_
            rintro _ w4 ⟨rfl, d3, hp3, hs3, hS3⟩
            go_wp2_with fail
            go_end0
            obtain ⟨q1, q2⟩ := merge_main HO.out (s := s) (e := e) (mid := (a + b) / 2) hb HL.out HR.out (by omega) (by omega) (by omega) (by omega) (by omega) C1.out C2.out HRt.out HP1.out HP2.out HS2.out hp3 hs3
            exact ⟨rfl, d3, q1, q2, hS3⟩
          · exfalso; omega
        · by_cases hr3x : e < b
          · skip
            have hr1a : (s : Int) < (m : Int) := by omega
            have hr1b : (m : Int) < ((a : Int) + (b : Int)) / 2 + (m : Int) - (s : Int) := by omega
            have hl3a : ¬ (a : Int) < (s : Int) := by omega
            have hr3a : ((a : Int) + (b : Int)) / 2 < ((a : Int) + (b : Int)) / 2 + (m : Int) - (s : Int) := by omega
            have hr3b : ((a : Int) + (b : Int)) / 2 + (m : Int) - (s : Int) < (b : Int) := by omega
            go_wp2_with fail
            have c1 := rotate_at 21 #[] blk off cap s m e d0 d w0 wr R hs S1.out (by omega) (by omega) (by omega) hsz
            rw [hez] at c1
            refine Calls.mono c1 ?_
            rintro _ w2 ⟨rfl, d1, hrt, hp1, hS1⟩
            have HRt : Hid (Rt s m e d d1) := hrt
            have HP1 : Hid (PermIn a b d d1) := permIn_mono d d1 s e a b (by omega) (by omega) hb hp1
            have S4 : Aside (S2 w0 blk off d1 w2) := hS1
            clear hrt hp1 hS1 c1
            go_wp2_with fail
            have PL : Hid _ := parts_left (lt := ltOf cf) (s := s) (e := e) (mid := (a + b) / 2) HL.out HR.out HF.out (by omega) (by omega) (by omega) (by omega) (by omega) HRt.out
            have HP2 : Hid (PermIn a ((a + b) / 2) d1 d1) := permIn_refl _ _ _
            have HS2 : Hid (SortedIn T a ((a + b) / 2) d1) := half_left PL.out.1 PL.out.2.1 (by omega) (by omega)
            have hz2 : d1.size = d.size := HP2.out.1.trans HP1.out.1
            have c3 := HI.out ((a + b) / 2) e b d1 w2 (by omega) (by omega) S4.out (by omega) (by omega) (by omega) (fun i j p q r => by rw [HP2.out.2.1 i (by omega), HP2.out.2.1 j (by omega)]; exact PL.out.2.2.2.1 i j p q r) (fun i j p q r => by rw [HP2.out.2.1 i (by omega), HP2.out.2.1 j (by omega)]; exact PL.out.2.2.2.2.1 i j p q r) (fun i j p q r t => by rw [HP2.out.2.1 i (by omega), HP2.out.2.1 j (by omega)]; exact PL.out.2.2.2.2.2 i j p q r t)
            rw [hmidz, hez, hz2] at c3
            refine Calls.mono c3 ?_
            rintro _ w4 ⟨rfl, d3, hp3, hs3, hS3⟩
            go_wp2_with fail
            go_end0
            obtain ⟨q1, q2⟩ := merge_main HO.out (s := s) (e := e) (mid := (a + b) / 2) hb HL.out HR.out (by omega) (by omega) (by omega) (by omega) (by omega) C1.out C2.out HRt.out HP1.out HP2.out HS2.out hp3 hs3
            exact ⟨rfl, d3, q1, q2, hS3⟩
          · skip
            have hr1a : (s : Int) < (m : Int) := by omega
            have hr1b : (m : Int) < ((a : Int) + (b : Int)) / 2 + (m : Int) - (s : Int) := by omega
            have hl3a : ¬ (a : Int) < (s : Int) := by omega
            have hr3a : ((a : Int) + (b : Int)) / 2 < ((a : Int) + (b : Int)) / 2 + (m : Int) - (s : Int) := by omega
            have hr3b : ¬ ((a : Int) + (b : Int)) / 2 + (m : Int) - (s : Int) < (b : Int) := by omega
            go_wp2_with fail
            have c1 := rotate_at 21 #[] blk off cap s m e d0 d w0 wr R hs S1.out (by omega) (by omega) (by omega) hsz
            rw [hez] at c1
            refine Calls.mono c1 ?_
            rintro _ w2 ⟨rfl, d1, hrt, hp1, hS1⟩
            have HRt : Hid (Rt s m e d d1) := hrt
            have HP1 : Hid (PermIn a b d d1) := permIn_mono d d1 s e a b (by omega) (by omega) hb hp1
            have S4 : Aside (S2 w0 blk off d1 w2) := hS1
            clear hrt hp1 hS1 c1
            go_wp2_with fail
            have PL : Hid _ := parts_left (lt := ltOf cf) (s := s) (e := e) (mid := (a + b) / 2) HL.out HR.out HF.out (by omega) (by omega) (by omega) (by omega) (by omega) HRt.out
            have HP2 : Hid (PermIn a ((a + b) / 2) d1 d1) := permIn_refl _ _ _
            have HS2 : Hid (SortedIn T a ((a + b) / 2) d1) := half_left PL.out.1 PL.out.2.1 (by omega) (by omega)
            go_end0
            obtain ⟨q1, q2⟩ := merge_main HO.out (s := s) (e := e) (mid := (a + b) / 2) (d3 := d1) hb HL.out HR.out (by omega) (by omega) (by omega) (by omega) (by omega) C1.out C2.out HRt.out HP1.out HP2.out HS2.out (permIn_refl _ _ _) (half_right (fun i j p q r => by rw [HP2.out.2.1 i (by omega), HP2.out.2.1 j (by omega)]; exact PL.out.2.2.2.1 i j p q r) (fun i j p q r => by rw [HP2.out.2.1 i (by omega), HP2.out.2.1 j (by omega)]; exact PL.out.2.2.2.2.1 i j p q r) (by omega) (by omega))
            exact ⟨rfl, _, q1, q2, S4.out⟩
      · by_cases hl3 : s < (a + b) / 2
        · skip
          have hr1a : ¬ (s : Int) < (m : Int) := by omega
          have hl3a : (a : Int) < (s : Int) := by omega
          have hl3b : (s : Int) < ((a : Int) + (b : Int)) / 2 := by omega
          have hr3a : ¬ ((a : Int) + (b : Int)) / 2 < ((a : Int) + (b : Int)) / 2 + (m : Int) - (s : Int) := by omega
          go_wp2_with fail
          have HRt : Hid (Rt s m e d d) := Rt.none d (by omega) (by omega) (by omega)
          have HP1 : Hid (PermIn a b d d) := permIn_refl _ _ _
          have PL : Hid _ := parts_left (lt := ltOf cf) (s := s) (e := e) (mid := (a + b) / 2) HL.out HR.out HF.out (by omega) (by omega) (by omega) (by omega) (by omega) HRt.out
          have hz1 : d.size = d.size := HP1.out.1
          have c2 := HI.out a s ((a + b) / 2) d wr (by omega) (by omega) S1.out (by omega) (by omega) (by omega) PL.out.1 PL.out.2.1 PL.out.2.2.1
          rw [hmidz, hz1] at c2
          refine Calls.mono c2 ?_
          rintro _ w3 ⟨rfl, d2, hp2, hs2, hS2⟩
          have HP2 : Hid (PermIn a ((a + b) / 2) d d2) := hp2
          have HS2 : Hid (SortedIn T a ((a + b) / 2) d2) := hs2
          have S5 : Aside (S2 w0 blk off d2 w3) := hS2
          clear hp2 hs2 hS2 c2
          go_wp2_with fail
          go_end0
          obtain ⟨q1, q2⟩ := merge_main HO.out (s := s) (e := e) (mid := (a + b) / 2) (d3 := d2) hb HL.out HR.out (by omega) (by omega) (by omega) (by omega) (by omega) C1.out C2.out HRt.out HP1.out HP2.out HS2.out (permIn_refl _ _ _) (half_right (fun i j p q r => by rw [HP2.out.2.1 i (by omega), HP2.out.2.1 j (by omega)]; exact PL.out.2.2.2.1 i j p q r) (fun i j p q r => by rw [HP2.out.2.1 i (by omega), HP2.out.2.1 j (by omega)]; exact PL.out.2.2.2.2.1 i j p q r) (by omega) (by omega))
          exact ⟨rfl, _, q1, q2, S5.out⟩
        · skip
          have hr1a : ¬ (s : Int) < (m : Int) := by omega
          have hl3a : (a : Int) < (s : Int) := by omega
          have hl3b : ¬ (s : Int) < ((a : Int) + (b : Int)) / 2 := by omega
          have hr3a : ¬ ((a : Int) + (b : Int)) / 2 < ((a : Int) + (b : Int)) / 2 + (m : Int) - (s : Int) := by omega
          go_wp2_with fail
          have HRt : Hid (Rt s m e d d) := Rt.none d (by omega) (by omega) (by omega)
          have HP1 : Hid (PermIn a b d d) := permIn_refl _ _ _
          have PL : Hid _ := parts_left (lt := ltOf cf) (s := s) (e := e) (mid := (a + b) / 2) HL.out HR.out HF.out (by omega) (by omega) (by omega) (by omega) (by omega) HRt.out
          have HP2 : Hid (PermIn a ((a + b) / 2) d d) := permIn_refl _ _ _
          have HS2 : Hid (SortedIn T a ((a + b) / 2) d) := half_left PL.out.1 PL.out.2.1 (by omega) (by omega)
          go_end0
          obtain ⟨q1, q2⟩ := merge_main HO.out (s := s) (e := e) (mid := (a + b) / 2) (d3 := d) hb HL.out HR.out (by omega) (by omega) (by omega) (by omega) (by omega) C1.out C2.out HRt.out HP1.out HP2.out HS2.out (permIn_refl _ _ _) (half_right (fun i j p q r => by rw [HP2.out.2.1 i (by omega), HP2.out.2.1 j (by omega)]; exact PL.out.2.2.2.1 i j p q r) (fun i j p q r => by rw [HP2.out.2.1 i (by omega), HP2.out.2.1 j (by omega)]; exact PL.out.2.2.2.2.1 i j p q r) (by omega) (by omega))
          exact ⟨rfl, _, q1, q2, S1.out⟩
end Go.Proofs.YtkldnapbeebdkaaDoor.st
/- Groups in a row: sorted, like ones as they stood. -/
namespace Go.Proofs.YtkldnapbeebdkaaDoor.st
set_option linter.unusedVariables false
open Go.Shelf Go.RowKit Go.Lib Go.Sort
open mem
theorem symMerge_at (T : Gv × Nat → Gv × Nat → Bool) (hO : SWO T) (blk off cap : Nat) (d0 : Array (Gv × Nat)) (w0 : World) (R : R2 w0 blk off d0) (hsz : d0.size < 4611686018427387904) : ∀ (N a m b : Nat) (d : Array (Gv × Nat)) (w : World), b - a ≤ N → d0.size = d.size → S2 w0 blk off d w → a < m → m < b → b ≤ d.size → SortedIn T a m d → SortedIn T m b d → Fair (ltOf cf) T a m b d →
    Calls Tryd.prog 53 #[.slice (some ⟨blk, off, none⟩) d.size cap, .int .i64 a, .int .i64 m, .int .i64 b, fnv] w fun e w' => e = .returned (.tuple #[]) ∧ ∃ d', PermIn a b d d' ∧ SortedIn T a b d' ∧ S2 w0 blk off d' w'
  | 0, a, m, b, d, w, hN, hs, S, ham, hmb, hb, hl, hr, hf => by omega
  | N + 1, a, m, b, d, w, hN, hs, S, ham, hmb, hb, hl, hr, hf => by
    by_cases h1 : m = a + 1
    · subst h1
      have := sym_left T hO blk off cap a b d0 d w0 w R hs S hmb hb (by omega) hr hf
      rwa [show (a : Int) + 1 = ((a + 1 : Nat) : Int) by omega] at this
    · by_cases h2 : b = m + 1
      · subst h2
        have := sym_right T hO blk off cap a m d0 d w0 w R hs S (by omega) hb (by omega) hl hf
        rwa [show (m : Int) + 1 = ((m + 1 : Nat) : Int) by omega] at this
      · by_cases hm : (a + b) / 2 < m
        · exact sym_a T hO blk off cap a m b d0 d w0 w R hs S (by omega) (by omega) hb (by omega) hl hr hf hm (fun a' m' b' d' w' h => symMerge_at T hO blk off cap d0 w0 R hsz N a' m' b' d' w' (by omega))
        · exact sym_b T hO blk off cap a m b d0 d w0 w R hs S (by omega) (by omega) hb (by omega) hl hr hf hm (fun a' m' b' d' w' h => symMerge_at T hO blk off cap d0 w0 R hsz N a' m' b' d' w' (by omega))
/-! ### Blocks -/
/-- Elements are told apart by their tags, which stand in rising order at first: the order by number, then by tag. -/
def T (x y : Gv × Nat) : Bool := decide (x.1.1 < y.1.1 ∨ (x.1.1 = y.1.1 ∧ x.2 < y.2))
theorem T_iff (x y : Gv × Nat) : T x y = true ↔ (x.1.1 < y.1.1 ∨ (x.1.1 = y.1.1 ∧ x.2 < y.2)) := decide_eq_true_iff
theorem T_not (x y : Gv × Nat) : T x y = false ↔ ¬ (x.1.1 < y.1.1 ∨ (x.1.1 = y.1.1 ∧ x.2 < y.2)) := decide_eq_false_iff_not
theorem swoT : SWO T where
  irrefl x := by rw [T_not]; omega
  trans x y z h1 h2 := by rw [T_iff] at *; omega
  ntrans x y z h1 h2 := by rw [T_not] at *; omega
theorem fair_of {a m b : Nat} {d : Array (Gv × Nat)} (h : ∀ i j, a ≤ i → i < m → m ≤ j → j < b → d[i]!.2 < d[j]!.2) : Fair (ltOf cf) T a m b d := by
  intro i j h1 h2 h3 h4
  have := h i j h1 h2 h3 h4
  rw [lt_is]
  by_cases hlt : d[j]!.1.1 < d[i]!.1.1
  · rw [(T_iff _ _).2 (Or.inl hlt), decide_eq_true hlt]
  · rw [(T_not _ _).2 (by omega), decide_eq_false hlt]
/-- Blocks of s elements: each is sorted (from block lo on: halves alone), and its tags are its own places. -/
def Bk (s : Nat) (n : Nat) (d : Array (Gv × Nat)) : Prop := ∀ i j, i < j → j < n → i / s = j / s → T d[j]! d[i]! = false
def Tg (s : Nat) (n : Nat) (d : Array (Gv × Nat)) : Prop := ∀ i, i < n → d[i]!.2 / s = i / s
theorem Tg.fair {s n q b : Nat} {d : Array (Gv × Nat)} (h : Tg s n d) (hs : 0 < s) (hb : b ≤ n) (hb2 : b ≤ q * s + 2 * s) : Fair (ltOf cf) T (q * s) (q * s + s) b d := by
  refine fair_of fun i j h1 h2 h3 h4 => ?_
  have hi := h i (by omega)
  have hj := h j (by omega)
  have e1 : i / s < q + 1 := by rw [Nat.div_lt_iff_lt_mul hs, Nat.add_mul]; omega
  have e2 : q + 1 ≤ j / s := by rw [Nat.le_div_iff_mul_le hs, Nat.add_mul]; omega
  rcases Nat.lt_or_ge d[i]!.2 d[j]!.2 with h | h
  · exact h
  · have := Nat.div_le_div_right (c := s) h
    omega
theorem tg_perm {s n a b : Nat} {d d' : Array (Gv × Nat)} (h : Tg s n d) (hn : n ≤ d.size) (hbn : b ≤ n) (hp : PermIn a b d d') (hq : ∀ i j, a ≤ i → i < b → a ≤ j → j < b → i / s = j / s) : Tg s n d' := by
  intro i hi
  by_cases hin : a ≤ i ∧ i < b
  · exact permIn_all d d' a b (fun z => z.2 / s = i / s) (by omega) hp (fun j h1 h2 => by rw [h j (by omega)]; exact hq j i h1 h2 hin.1 hin.2) i hin.1 hin.2
  · rw [hp.2.1 i (by omega)]; exact h i hi
theorem Tg.dbl {s n : Nat} {d : Array (Gv × Nat)} (h : Tg s n d) : Tg (s * 2) n d := by
  intro i hi
  have := h i hi
  rw [← Nat.div_div_eq_div_mul, ← Nat.div_div_eq_div_mul, this]
/-- Half way: blocks of twice as many elements are sorted before place a = q * (2 * s). -/
def Hw (s q n : Nat) (d : Array (Gv × Nat)) : Prop := Tg (s * 2) n d ∧ (∀ i j, i < j → j < n → j < q * (s * 2) → i / (s * 2) = j / (s * 2) → T d[j]! d[i]! = false) ∧ (∀ i, q * (s * 2) ≤ i → i < n → d[i]!.2 / s = i / s) ∧ (∀ i j, q * (s * 2) ≤ i → i < j → j < n → i / s = j / s → T d[j]! d[i]! = false)
theorem Hw.start {s n : Nat} {d : Array (Gv × Nat)} (h1 : Bk s n d) (h2 : Tg s n d) : Hw s 0 n d := ⟨h2.dbl, fun i j _ _ h => by omega, fun i _ h => h2 i h, fun i j _ h h3 h4 => h1 i j h h3 h4⟩
theorem in_block {s q i : Nat} (hs : 0 < s) (h1 : q * s ≤ i) (h2 : i < q * s + s) : i / s = q := by
  refine Nat.div_eq_of_lt_le (by omega) (by rw [Nat.add_mul]; omega)
theorem Hw.pre {s q n b : Nat} {d : Array (Gv × Nat)} (h : Hw s q n d) (hs : 0 < s) (hb : b ≤ n) (hb2 : b ≤ q * (s * 2) + s * 2) (hm : q * (s * 2) + s < b) : SortedIn T (q * (s * 2)) (q * (s * 2) + s) d ∧ SortedIn T (q * (s * 2) + s) b d ∧ Fair (ltOf cf) T (q * (s * 2)) (q * (s * 2) + s) b d := by
  have e : q * (s * 2) = (2 * q) * s := by rw [Nat.mul_comm s 2, ← Nat.mul_assoc, Nat.mul_comm q 2]
  refine ⟨fun i j h1 h2 h3 => h.2.2.2 i j h1 h2 (by omega) ?_, fun i j h1 h2 h3 => h.2.2.2 i j (by omega) h2 (by omega) ?_, fair_of fun i j h1 h2 h3 h4 => ?_⟩
  · rw [in_block hs (q := 2 * q) (by omega) (by omega), in_block hs (q := 2 * q) (by omega) (by omega)]
  · rw [in_block hs (q := 2 * q + 1) (by rw [Nat.add_mul]; omega) (by rw [Nat.add_mul]; omega), in_block hs (q := 2 * q + 1) (by rw [Nat.add_mul]; omega) (by rw [Nat.add_mul]; omega)]
  · have hi := h.2.2.1 i h1 (by omega)
    have hj := h.2.2.1 j (by omega) (by omega)
    have ei : i / s = 2 * q := in_block hs (by omega) (by omega)
    have ej : j / s = 2 * q + 1 := in_block hs (by rw [Nat.add_mul]; omega) (by rw [Nat.add_mul]; omega)
    rw [ei] at hi
    rw [ej] at hj
    rcases Nat.lt_or_ge d[i]!.2 d[j]!.2 with h | h
    · exact h
    · have := Nat.div_le_div_right (c := s) h
      omega
theorem Hw.next {s q n b : Nat} {d d' : Array (Gv × Nat)} (h : Hw s q n d) (hs : 0 < s) (hn : n ≤ d.size) (hb : b ≤ n) (hb2 : b ≤ q * (s * 2) + s * 2) (hend : b = q * (s * 2) + s * 2 ∨ b = n) (hp : PermIn (q * (s * 2)) b d d') (hsd : SortedIn T (q * (s * 2)) b d') : Hw s (q + 1) n d' := by
  have hz : q * (s * 2) + s * 2 = (q + 1) * (s * 2) := by rw [Nat.add_mul]; omega
  have h2 : 0 < s * 2 := by omega
  refine ⟨tg_perm h.1 hn hb hp fun i j h1 h3 h4 h5 => ?_, fun i j hij hjn hjq hd => ?_, fun i h1 h3 => ?_, fun i j h1 h3 h4 h5 => ?_⟩
  · rw [in_block h2 (q := q) h1 (by omega), in_block h2 (q := q) h4 (by omega)]
  · by_cases hj : j < q * (s * 2)
    · rw [hp.2.1 i (by omega), hp.2.1 j (by omega)]; exact h.2.1 i j hij hjn hj hd
    · have hjb : j / (s * 2) = q := in_block h2 (by omega) (by omega)
      have hi : q * (s * 2) ≤ i := by
        have := Nat.div_mul_le_self i (s * 2)
        rw [hd, hjb] at this
        exact this
      exact hsd i j hi hij (by omega)
  · rw [hp.2.1 i (by omega)]; exact h.2.2.1 i (by omega) h3
  · rw [hp.2.1 i (by omega), hp.2.1 j (by omega)]; exact h.2.2.2 i j (by omega) h3 h4 h5
theorem Hw.done {s q n : Nat} {d : Array (Gv × Nat)} (h : Hw s q n d) (hs : 0 < s) (hq : n ≤ q * (s * 2) + s) : Bk (s * 2) n d ∧ Tg (s * 2) n d := by
  refine ⟨fun i j hij hjn hd => ?_, h.1⟩
  have h2 : 0 < s * 2 := by omega
  by_cases hj : j < q * (s * 2)
  · exact h.2.1 i j hij hjn hj hd
  · have e : q * (s * 2) = (2 * q) * s := by rw [Nat.mul_comm s 2, ← Nat.mul_assoc, Nat.mul_comm q 2]
    have hjb : j / (s * 2) = q := in_block h2 (by omega) (by omega)
    have hi : q * (s * 2) ≤ i := by
      have := Nat.div_mul_le_self i (s * 2)
      rw [hd, hjb] at this
      exact this
    refine h.2.2.2 i j hi hij hjn ?_
    rw [in_block hs (q := 2 * q) (by omega) (by omega), in_block hs (q := 2 * q) (by omega) (by omega)]
theorem Bk.all {s n : Nat} {d : Array (Gv × Nat)} (h : Bk s n d) (hs : n ≤ s) : SortedIn T 0 n d := fun i j _ hij hj => h i j hij hj (by rw [Nat.div_eq_of_lt (by omega), Nat.div_eq_of_lt (by omega)])
/-! ### The sort by inserting, by tags -/
theorem ins_same {lt T : Gv × Nat → Gv × Nat → Bool} (a : Nat) : ∀ (j : Nat) (d : Array (Gv × Nat)), j < d.size → (∀ x, a ≤ x → x < j → lt d[j]! d[x]! = T d[j]! d[x]!) → insInner lt a j d = insInner T a j d
  | 0, d, _, _ => rfl
  | j + 1, d, hj, h => by
    unfold insInner
    by_cases ha : j + 1 > a
    · have h0 := h j (by omega) (by omega)
      rw [h0]
      cases hT : T d[j + 1]! d[j]! with
      | false => simp
      | true =>
        simp only [ha, decide_true, Bool.and_self, if_true]
        refine ins_same a j (swp d (j + 1) j) (by rw [size_swp]; omega) fun x h1 h2 => ?_
        rw [swp_get d hj (by omega), swp_get d hj (by omega), if_pos rfl, if_neg (by omega), if_neg (by omega)]
        exact h x h1 (by omega)
    · simp [ha]
theorem ins_perm {lt : Gv × Nat → Gv × Nat → Bool} (a b : Nat) : ∀ (j : Nat) (d : Array (Gv × Nat)), j < b → b ≤ d.size → PermIn a b d (insInner lt a j d)
  | 0, d, _, _ => permIn_refl _ _ _
  | j + 1, d, hj, hb => by
    unfold insInner
    by_cases ha : (decide (j + 1 > a) && lt d[j + 1]! d[j]!) = true
    · rw [if_pos ha]
      have hja : a ≤ j := by
        have := (Bool.and_eq_true _ _ ▸ ha).1
        have := of_decide_eq_true this
        omega
      exact permIn_trans _ _ _ _ _ (swp_permIn d a b (j + 1) j (by omega) hj hja (by omega) hb) (ins_perm a b j _ (by omega) (by rw [size_swp]; exact hb))
    · rw [if_neg ha]; exact permIn_refl _ _ _
theorem outer_same (a b : Nat) : ∀ (k i : Nat) (d : Array (Gv × Nat)), b - i ≤ k → a ≤ i → b ≤ d.size → (∀ x, a ≤ x → x < i → d[x]!.2 < i) → (∀ x, i ≤ x → x < b → d[x]!.2 = x) → insOuter (ltOf cf) a b i d = insOuter T a b i d
  | 0, i, d, hk, _, _, _, _ => by rw [insOuter_stop _ _ _ _ _ (by omega), insOuter_stop _ _ _ _ _ (by omega)]
  | k + 1, i, d, hk, ha, hb, h1, h2 => by
    by_cases hib : i < b
    · rw [insOuter_go _ _ _ _ _ hib, insOuter_go _ _ _ _ _ hib]
      have e : insInner (ltOf cf) a i d = insInner T a i d := ins_same a i d (by omega) fun x p q =>
        (fair_of (a := a) (m := i) (b := b) (d := d) fun x y h3 h4 h5 h6 => by have := h1 x h3 h4; have := h2 y h5 h6; omega) x i p q (Nat.le_refl _) hib
      rw [e]
      have hp := ins_perm (lt := T) a (i + 1) i d (by omega) (by omega)
      refine outer_same a b k (i + 1) _ (by omega) (by omega) (by rw [hp.1]; exact hb) (fun x p q => ?_) (fun x p q => ?_)
      · refine permIn_all d _ a (i + 1) (fun z => z.2 < i + 1) (by omega) hp (fun y h3 h4 => ?_) x p q
        by_cases hy : y < i
        · have := h1 y h3 hy; omega
        · have := h2 y (by omega) (by omega); omega
      · rw [hp.2.1 x (by omega)]; exact h2 x (by omega) q
    · rw [insOuter_stop _ _ _ _ _ hib, insOuter_stop _ _ _ _ _ hib]
/-- Elements that stand as their tags tell: sorted by inserting, they are sorted by number, then by tag. -/
theorem insertion_T {a b : Nat} {d : Array (Gv × Nat)} (hab : a ≤ b) (hb : b ≤ d.size) (h : ∀ x, a ≤ x → x < b → d[x]!.2 = x) : PermIn a b d (Sort.insertionSort (ltOf cf) d a b) ∧ SortedIn T a b (Sort.insertionSort (ltOf cf) d a b) := by
  have e : Sort.insertionSort (ltOf cf) d a b = Sort.insertionSort T d a b := by
    unfold Sort.insertionSort
    by_cases hlt : a < b
    · exact outer_same a b (b - (a + 1)) (a + 1) d (Nat.le_refl _) (by omega) hb (fun x p q => by have := h x p (by omega); omega) (fun x p q => h x (by omega) q)
    · rw [insOuter_stop _ _ _ _ _ (by omega), insOuter_stop _ _ _ _ _ (by omega)]
  rw [e]
  exact insertionSort_holds swoT d a b hab hb
end Go.Proofs.YtkldnapbeebdkaaDoor.st
