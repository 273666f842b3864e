/- Groups in a row: two sorted parts merged where they stand, whatever they are. -/
import Derived.Test.YtkldnapbeebdkaaDoorSt3
namespace Go.Proofs.YtkldnapbeebdkaaDoor.st
set_option linter.unusedVariables false
open Go.Shelf Go.RowKit Go.Lib Go.Sort
open mem
theorem half_left {α : Type} [Inhabited α] {T : α → α → Bool} {a s mid : Nat} {d : Array α} (h1 : SortedIn T a s d) (h2 : SortedIn T s mid d) (h : ¬ (a < s ∧ s < mid)) (has : a ≤ s) : SortedIn T a mid d := by
  by_cases hs : a < s
  · intro i j p q r; exact h1 i j p q (by omega)
  · intro i j p q r; exact h2 i j (by omega) q r
theorem half_right {α : Type} [Inhabited α] {T : α → α → Bool} {mid e b : Nat} {d : Array α} (h1 : SortedIn T mid e d) (h2 : SortedIn T e b d) (h : ¬ (mid < e ∧ e < b)) (heb : e ≤ b) : SortedIn T mid b d := by
  by_cases hs : mid < e
  · intro i j p q r; exact h1 i j p q (by omega)
  · intro i j p q r; exact h2 i j (by omega) q r
theorem Rt.none {α : Type} [Inhabited α] {s m e : Nat} (d : Array α) (h : ¬ (s < m ∧ m < e)) (h1 : s ≤ m) (h2 : m ≤ e) : Rt s m e d d := by
  refine ⟨rfl, fun x => ?_⟩
  by_cases hs : s < m
  · rw [if_neg (by omega)]
    split
    · congr 1; omega
    · rfl
  · split
    · congr 1; omega
    · rw [if_neg (by omega)]
set_option maxHeartbeats 16000000 in
set_option maxRecDepth 1000000 in
theorem sym_a (T : Gv × Nat → Gv × Nat → Bool) (hO : SWO T) (blk off cap a m b : Nat) (d0 d : Array (Gv × Nat)) (w0 w : World) (R : R2 w0 blk off d0) (hs : d0.size = d.size) (S : S2 w0 blk off d w) (ham : a + 1 < m) (hmb : m + 1 < b) (hb : b ≤ d.size) (hsz : d.size < 4611686018427387904)
    (hl : SortedIn T a m d) (hr : SortedIn T m b d) (hf : Fair (ltOf cf) T a m b d)
    (hmid : (a + b) / 2 < m)
    (IH : ∀ (a' m' b' : Nat) (d' : Array (Gv × Nat)) (w' : World), b' - a' < b - a → d0.size = d'.size → S2 w0 blk off d' w' → a' < m' → m' < b' → b' ≤ d'.size → SortedIn T a' m' d' → SortedIn T m' b' d' → Fair (ltOf cf) T a' m' b' d' →
      Calls Tryd.prog 53 #[.slice (some ⟨blk, off, none⟩) d'.size cap, .int .i64 a', .int .i64 m', .int .i64 b', fnv] w' fun e w'' => e = .returned (.tuple #[]) ∧ ∃ d'', PermIn a' b' d' d'' ∧ SortedIn T a' b' d'' ∧ S2 w0 blk off d'' w'') :
    Calls Tryd.prog 53 #[.slice (some ⟨blk, off, none⟩) d.size cap, .int .i64 a, .int .i64 m, .int .i64 b, fnv] w fun e w' => e = .returned (.tuple #[]) ∧ ∃ d', PermIn a b d d' ∧ SortedIn T a b d' ∧ S2 w0 blk off d' w' := by
  have mixed := mixedP; have tR := tR; have aR := aR; have zR := zR; have aE := aE; have zE := zE; have tI := tI; have aI := aI; have zI := zI
  have S0 : Aside (S2 w0 blk off d w) := S
  have HL : Hid (SortedIn T a m d) := hl
  have HR : Hid (SortedIn T m b d) := hr
  have HF : Hid (Fair (ltOf cf) T a m b d) := hf
  have HO : Hid (SWO T) := hO
  have HI : Aside _ := IH
  clear S hl hr hf hO IH
  have h1 : (((m : Int) - (a : Int)) == 1) = false := by rw [beq_eq_false_iff_ne]; omega
  have h2 : (((b : Int) - (m : Int)) == 1) = false := by rw [beq_eq_false_iff_ne]; omega
  go_enter Tryd.func53, Tryd.ntmps53
  have hmz : ((a : Int) + (b : Int)) / 2 < (m : Int) := by omega
  go_wp2
  go_loopg [20, 21] (b - a) (fun kx s20 s21 wr => ∃ (s r : Nat), s20 = .int .i64 s ∧ s21 = .int .i64 r ∧ ((a + b) / 2 + m - b) ≤ s ∧ s ≤ r ∧ r ≤ ((a + b) / 2) ∧ r - s ≤ kx ∧ Hid ((s = ((a + b) / 2 + m - b) ∨ (a < s ∧ T d[(a + b) / 2 + m - s]! d[s - 1]! = false)) ∧ (r = ((a + b) / 2) ∨ T d[(a + b) / 2 + m - 1 - r]! d[r]! = true)) ∧ Aside (S2 w0 blk off d wr))
  case atStart => exact ⟨((a + b) / 2 + m - b), ((a + b) / 2), by first | rfl | (congr 1; done) | (congr 1; omega), by first | rfl | (congr 1; done) | (congr 1; omega), Nat.le_refl _, by omega, Nat.le_refl _, by omega, ⟨Or.inl rfl, Or.inl rfl⟩, S0⟩
  case round =>
    clear S0
    obtain ⟨s, r, rfl, rfl, hs0, hsr, hr0, hkx, H, S1⟩ := hrel
    by_cases hlt : s < r
    · have hltz : (s : Int) < r := by omega
      clear HI
      go_wp2_with fail
      obtain ⟨pc, hpc⟩ : ∃ pc, pc = (a + b) / 2 + m - 1 - (s + r) / 2 := ⟨_, rfl⟩
      have hpcz : ((a : Int) + (b : Int)) / 2 + (m : Int) - 1 - ((s : Int) + (r : Int)) / 2 = (pc : Int) := by omega
      have hpc1 : m ≤ pc := by omega
      have hpc2 : pc < b := by omega
      have HPC : Hid (pc = (a + b) / 2 + m - 1 - (s + r) / 2) := hpc
      clear hpc
      have HFh : Hid (ltOf cf d[pc]! d[(s + r) / 2]! = T d[pc]! d[(s + r) / 2]!) := HF.out ((s + r) / 2) pc (by omega) (by omega) (by omega) (by omega)
      cases hlv : ltOf cf d[pc]! d[(s + r) / 2]! with
      | false =>
        have HT : Hid (T d[pc]! d[(s + r) / 2]! = false) := by rw [← HFh.out]; exact hlv
        have ea1 : ((pc : Int)).toNat = pc := by omega
        have pa1 : (0 : Int) ≤ (pc : Int) := by omega
        have ba1 : (pc : Int) < (d.size : Int) := by omega
        have ra1 : IntKind.i64.wrap ((pc : Int)) = (pc : Int) := by rw [IntKind.wrap_i64]; omega
        have ec1 : (((s : Int) + (r : Int)) / 2).toNat = (s + r) / 2 := by omega
        have pc1 : (0 : Int) ≤ ((s : Int) + (r : Int)) / 2 := by omega
        have bc1 : ((s : Int) + (r : Int)) / 2 < (d.size : Int) := by omega
        have rc1 : IntKind.i64.wrap (((s : Int) + (r : Int)) / 2) = ((s : Int) + (r : Int)) / 2 := by rw [IntKind.wrap_i64]; omega
        obtain ⟨x1, hx1⟩ : ∃ x, x = d[pc]! := ⟨_, rfl⟩
        obtain ⟨y1, hy1⟩ : ∃ x, x = d[(s + r) / 2]! := ⟨_, rfl⟩
        have l1a : ∀ n os, (grow (wr.drewN n) os).cell? ⟨blk, off + (pc) * 2, none⟩ = some (.int .i64 x1.1.1) := fun n os => by rw [hx1]; exact (cells2 (S1.out.grown n os) R (by omega) (pc) (by omega)).1
        have m1a : ∀ n os, (grow (wr.drewN n) os).cell? ⟨blk, off + (pc) * 2 + 1, none⟩ = some (.slice x1.1.2.1 x1.1.2.2.1 x1.1.2.2.2) := fun n os => by rw [hx1]; exact (cells2 (S1.out.grown n os) R (by omega) (pc) (by omega)).2.1
        have l1c : ∀ n os, (grow (wr.drewN n) os).cell? ⟨blk, off + ((s + r) / 2) * 2, none⟩ = some (.int .i64 y1.1.1) := fun n os => by rw [hy1]; exact (cells2 (S1.out.grown n os) R (by omega) ((s + r) / 2) (by omega)).1
        have m1c : ∀ n os, (grow (wr.drewN n) os).cell? ⟨blk, off + ((s + r) / 2) * 2 + 1, none⟩ = some (.slice y1.1.2.1 y1.1.2.2.1 y1.1.2.2.2) := fun n os => by rw [hy1]; exact (cells2 (S1.out.grown n os) R (by omega) ((s + r) / 2) (by omega)).2.1
        have k1a : ∀ n os, Sem.run Tryd.prog (loadCellsFrom ⟨blk, off + (pc) * 2, none⟩ 0 2 #[]) (grow (wr.drewN n) os) = .ok #[.int .i64 x1.1.1, .slice x1.1.2.1 x1.1.2.2.1 x1.1.2.2.2] (grow (wr.drewN n) os) := fun n os => by rw [hx1]; exact S1.out.ld R (by omega) Tryd.prog (pc) (by omega) n os
        have k1c : ∀ n os, Sem.run Tryd.prog (loadCellsFrom ⟨blk, off + ((s + r) / 2) * 2, none⟩ 0 2 #[]) (grow (wr.drewN n) os) = .ok #[.int .i64 y1.1.1, .slice y1.1.2.1 y1.1.2.2.1 y1.1.2.2.2] (grow (wr.drewN n) os) := fun n os => by rw [hy1]; exact S1.out.ld R (by omega) Tryd.prog ((s + r) / 2) (by omega) n os
        have hc1 : ∀ n os, Calls Tryd.prog 21 #[.agg #[.int .i64 x1.1.1, .slice x1.1.2.1 x1.1.2.2.1 x1.1.2.2.2], .agg #[.int .i64 y1.1.1, .slice y1.1.2.1 y1.1.2.2.1 y1.1.2.2.2]] (grow (wr.drewN n) os) _ := fun n os => closure_at x1 y1 (grow (wr.drewN n) os)
        have hv1 : ¬ cf x1 y1 < 0 := by rw [hx1, hy1]; exact cf_not hlv
        have hd1 : decide (cf x1 y1 < 0) = false := decide_eq_false hv1
        clear hx1 hy1
        generalize cf x1 y1 = v1 at hc1 hv1 hd1
        go_wp2_with fail
        go_quiet_grown (first | (go_at_call 21; refine Calls.grown_of (hc1 _ _)))
        have S3 : Aside (S2 w0 blk off d (grow (wr.drewN nq) osq)) := S1.out.grown nq osq
        clear l1a m1a l1c m1c k1a k1c hc1 S1
        generalize grow (wr.drewN nq) osq = w2 at S3 ⊢
        clear nq osq
        go_wp2
        go_roundg (r - ((s + r) / 2 + 1))
        case measure => omega
        case rel => exact ⟨(s + r) / 2 + 1, r, by first | rfl | (congr 1; done) | (congr 1; omega), rfl, by omega, by omega, hr0, Nat.le_refl _, ⟨Or.inr ⟨by omega, by rw [show (a + b) / 2 + m - ((s + r) / 2 + 1) = pc by have := HPC.out; omega]; exact HT.out⟩, H.out.2⟩, S3⟩
      | true =>
        have HT : Hid (T d[pc]! d[(s + r) / 2]! = true) := by rw [← HFh.out]; exact hlv
        have ea2 : ((pc : Int)).toNat = pc := by omega
        have pa2 : (0 : Int) ≤ (pc : Int) := by omega
        have ba2 : (pc : Int) < (d.size : Int) := by omega
        have ra2 : IntKind.i64.wrap ((pc : Int)) = (pc : Int) := by rw [IntKind.wrap_i64]; omega
        have ec2 : (((s : Int) + (r : Int)) / 2).toNat = (s + r) / 2 := by omega
        have pc2 : (0 : Int) ≤ ((s : Int) + (r : Int)) / 2 := by omega
        have bc2 : ((s : Int) + (r : Int)) / 2 < (d.size : Int) := by omega
        have rc2 : IntKind.i64.wrap (((s : Int) + (r : Int)) / 2) = ((s : Int) + (r : Int)) / 2 := by rw [IntKind.wrap_i64]; omega
        obtain ⟨x2, hx2⟩ : ∃ x, x = d[pc]! := ⟨_, rfl⟩
        obtain ⟨y2, hy2⟩ : ∃ x, x = d[(s + r) / 2]! := ⟨_, rfl⟩
        have l2a : ∀ n os, (grow (wr.drewN n) os).cell? ⟨blk, off + (pc) * 2, none⟩ = some (.int .i64 x2.1.1) := fun n os => by rw [hx2]; exact (cells2 (S1.out.grown n os) R (by omega) (pc) (by omega)).1
        have m2a : ∀ n os, (grow (wr.drewN n) os).cell? ⟨blk, off + (pc) * 2 + 1, none⟩ = some (.slice x2.1.2.1 x2.1.2.2.1 x2.1.2.2.2) := fun n os => by rw [hx2]; exact (cells2 (S1.out.grown n os) R (by omega) (pc) (by omega)).2.1
        have l2c : ∀ n os, (grow (wr.drewN n) os).cell? ⟨blk, off + ((s + r) / 2) * 2, none⟩ = some (.int .i64 y2.1.1) := fun n os => by rw [hy2]; exact (cells2 (S1.out.grown n os) R (by omega) ((s + r) / 2) (by omega)).1
        have m2c : ∀ n os, (grow (wr.drewN n) os).cell? ⟨blk, off + ((s + r) / 2) * 2 + 1, none⟩ = some (.slice y2.1.2.1 y2.1.2.2.1 y2.1.2.2.2) := fun n os => by rw [hy2]; exact (cells2 (S1.out.grown n os) R (by omega) ((s + r) / 2) (by omega)).2.1
        have k2a : ∀ n os, Sem.run Tryd.prog (loadCellsFrom ⟨blk, off + (pc) * 2, none⟩ 0 2 #[]) (grow (wr.drewN n) os) = .ok #[.int .i64 x2.1.1, .slice x2.1.2.1 x2.1.2.2.1 x2.1.2.2.2] (grow (wr.drewN n) os) := fun n os => by rw [hx2]; exact S1.out.ld R (by omega) Tryd.prog (pc) (by omega) n os
        have k2c : ∀ n os, Sem.run Tryd.prog (loadCellsFrom ⟨blk, off + ((s + r) / 2) * 2, none⟩ 0 2 #[]) (grow (wr.drewN n) os) = .ok #[.int .i64 y2.1.1, .slice y2.1.2.1 y2.1.2.2.1 y2.1.2.2.2] (grow (wr.drewN n) os) := fun n os => by rw [hy2]; exact S1.out.ld R (by omega) Tryd.prog ((s + r) / 2) (by omega) n os
        have hc2 : ∀ n os, Calls Tryd.prog 21 #[.agg #[.int .i64 x2.1.1, .slice x2.1.2.1 x2.1.2.2.1 x2.1.2.2.2], .agg #[.int .i64 y2.1.1, .slice y2.1.2.1 y2.1.2.2.1 y2.1.2.2.2]] (grow (wr.drewN n) os) _ := fun n os => closure_at x2 y2 (grow (wr.drewN n) os)
        have hv2 : cf x2 y2 < 0 := by rw [hx2, hy2]; exact cf_neg hlv
        have hd2 : decide (cf x2 y2 < 0) = true := decide_eq_true hv2
        clear hx2 hy2
        generalize cf x2 y2 = v2 at hc2 hv2 hd2
        go_wp2_with fail
        go_quiet_grown (first | (go_at_call 21; refine Calls.grown_of (hc2 _ _)))
        have S3 : Aside (S2 w0 blk off d (grow (wr.drewN nq) osq)) := S1.out.grown nq osq
        clear l2a m2a l2c m2c k2a k2c hc2 S1
        generalize grow (wr.drewN nq) osq = w2 at S3 ⊢
        clear nq osq
        go_wp2
        go_roundg ((s + r) / 2 - s)
        case measure => omega
        case rel => exact ⟨s, (s + r) / 2, rfl, by first | rfl | (congr 1; done) | (congr 1; omega), hs0, by omega, by omega, Nat.le_refl _, ⟨H.out.1, Or.inr (by rw [← HPC.out]; exact HT.out)⟩, S3⟩
    · have hltz : ¬ (s : Int) < r := by omega
      have hsr2 : r = s := by omega
      have C1 : Hid (s < m → m < (a + b) / 2 + m - s → T d[(a + b) / 2 + m - s - 1]! d[s]! = true) := fun p q => by
        rcases H.out.2 with h | h
        · omega
        · rw [hsr2] at h
          rw [show (a + b) / 2 + m - s - 1 = (a + b) / 2 + m - 1 - s by omega]
          exact h
      have C2 : Hid (a < s → (a + b) / 2 + m - s < b → T d[(a + b) / 2 + m - s]! d[s - 1]! = false) := fun p q => by
        rcases H.out.1 with h | h
        · omega
        · exact h.2
      clear H
      obtain ⟨e, he⟩ : ∃ e, e = (a + b) / 2 + m - s := ⟨_, rfl⟩
      rw [← he] at C1 C2
      have hez : (e : Int) = ((a : Int) + (b : Int)) / 2 + (m : Int) - (s : Int) := by omega
      have hmidz : (((a + b) / 2 : Nat) : Int) = ((a : Int) + (b : Int)) / 2 := by omega
      by_cases hr1 : s < m ∧ m < e
      · by_cases hl3 : a < s
        · by_cases hr3x : e < b
          · skip
            have hr1a : (s : Int) < (m : Int) := by omega
            have hr1b : (m : Int) < ((a : Int) + (b : Int)) / 2 + (m : Int) - (s : Int) := by omega
            have hl3a : (a : Int) < (s : Int) := by omega
            have hl3b : (s : Int) < ((a : Int) + (b : Int)) / 2 := by omega
            have hr3a : ((a : Int) + (b : Int)) / 2 < ((a : Int) + (b : Int)) / 2 + (m : Int) - (s : Int) := by omega
            have hr3b : ((a : Int) + (b : Int)) / 2 + (m : Int) - (s : Int) < (b : Int) := by omega
            go_wp2_with fail
            have c1 := rotate_at 21 #[] blk off cap s m e d0 d w0 wr R hs S1.out (by omega) (by omega) (by omega) hsz
            rw [hez] at c1
            refine Calls.mono c1 ?_
            rintro _ w2 ⟨rfl, d1, hrt, hp1, hS1⟩
            have HRt : Hid (Rt s m e d d1) := hrt
            have HP1 : Hid (PermIn a b d d1) := permIn_mono d d1 s e a b (by omega) (by omega) hb hp1
            have S4 : Aside (S2 w0 blk off d1 w2) := hS1
            clear hrt hp1 hS1 c1
            go_wp2_with fail
            have PL : Hid _ := parts_left (lt := ltOf cf) (s := s) (e := e) (mid := (a + b) / 2) HL.out HR.out HF.out (by omega) (by omega) (by omega) (by omega) (by omega) HRt.out
            have hz1 : d1.size = d.size := HP1.out.1
            have c2 := HI.out a s ((a + b) / 2) d1 w2 (by omega) (by omega) S4.out (by omega) (by omega) (by omega) PL.out.1 PL.out.2.1 PL.out.2.2.1
            rw [hmidz, hz1] at c2
            refine Calls.mono c2 ?_
            rintro _ w3 ⟨rfl, d2, hp2, hs2, hS2⟩
            have HP2 : Hid (PermIn a ((a + b) / 2) d1 d2) := hp2
            have HS2 : Hid (SortedIn T a ((a + b) / 2) d2) := hs2
            have S5 : Aside (S2 w0 blk off d2 w3) := hS2
            clear hp2 hs2 hS2 c2
            go_wp2_with fail
            have hz2 : d2.size = d.size := HP2.out.1.trans HP1.out.1
            have c3 := HI.out ((a + b) / 2) e b d2 w3 (by omega) (by omega) S5.out (by omega) (by omega) (by omega) (fun i j p q r => by rw [HP2.out.2.1 i (by omega), HP2.out.2.1 j (by omega)]; exact PL.out.2.2.2.1 i j p q r) (fun i j p q r => by rw [HP2.out.2.1 i (by omega), HP2.out.2.1 j (by omega)]; exact PL.out.2.2.2.2.1 i j p q r) (fun i j p q r t => by rw [HP2.out.2.1 i (by omega), HP2.out.2.1 j (by omega)]; exact PL.out.2.2.2.2.2 i j p q r t)
            rw [hmidz, hez, hz2] at c3
            refine Calls.mono c3 ?_
            rintro _ w4 ⟨rfl, d3, hp3, hs3, hS3⟩
            go_wp2_with fail
            go_end0
            obtain ⟨q1, q2⟩ := merge_main HO.out (s := s) (e := e) (mid := (a + b) / 2) hb HL.out HR.out (by omega) (by omega) (by omega) (by omega) (by omega) C1.out C2.out HRt.out HP1.out HP2.out HS2.out hp3 hs3
            exact ⟨rfl, d3, q1, q2, hS3⟩
          · skip
            have hr1a : (s : Int) < (m : Int) := by omega
            have hr1b : (m : Int) < ((a : Int) + (b : Int)) / 2 + (m : Int) - (s : Int) := by omega
            have hl3a : (a : Int) < (s : Int) := by omega
            have hl3b : (s : Int) < ((a : Int) + (b : Int)) / 2 := by omega
            have hr3a : ((a : Int) + (b : Int)) / 2 < ((a : Int) + (b : Int)) / 2 + (m : Int) - (s : Int) := by omega
            have hr3b : ¬ ((a : Int) + (b : Int)) / 2 + (m : Int) - (s : Int) < (b : Int) := by omega
            go_wp2_with fail
            have c1 := rotate_at 21 #[] blk off cap s m e d0 d w0 wr R hs S1.out (by omega) (by omega) (by omega) hsz
            rw [hez] at c1
            refine Calls.mono c1 ?_
            rintro _ w2 ⟨rfl, d1, hrt, hp1, hS1⟩
            have HRt : Hid (Rt s m e d d1) := hrt
            have HP1 : Hid (PermIn a b d d1) := permIn_mono d d1 s e a b (by omega) (by omega) hb hp1
            have S4 : Aside (S2 w0 blk off d1 w2) := hS1
            clear hrt hp1 hS1 c1
            go_wp2_with fail
            have PL : Hid _ := parts_left (lt := ltOf cf) (s := s) (e := e) (mid := (a + b) / 2) HL.out HR.out HF.out (by omega) (by omega) (by omega) (by omega) (by omega) HRt.out
            have hz1 : d1.size = d.size := HP1.out.1
            have c2 := HI.out a s ((a + b) / 2) d1 w2 (by omega) (by omega) S4.out (by omega) (by omega) (by omega) PL.out.1 PL.out.2.1 PL.out.2.2.1
            rw [hmidz, hz1] at c2
            refine Calls.mono c2 ?_
            rintro _ w3 ⟨rfl, d2, hp2, hs2, hS2⟩
            have HP2 : Hid (PermIn a ((a + b) / 2) d1 d2) := hp2
            have HS2 : Hid (SortedIn T a ((a + b) / 2) d2) := hs2
            have S5 : Aside (S2 w0 blk off d2 w3) := hS2
            clear hp2 hs2 hS2 c2
            go_wp2_with fail
            go_end0
            obtain ⟨q1, q2⟩ := merge_main HO.out (s := s) (e := e) (mid := (a + b) / 2) (d3 := d2) hb HL.out HR.out (by omega) (by omega) (by omega) (by omega) (by omega) C1.out C2.out HRt.out HP1.out HP2.out HS2.out (permIn_refl _ _ _) (half_right (fun i j p q r => by rw [HP2.out.2.1 i (by omega), HP2.out.2.1 j (by omega)]; exact PL.out.2.2.2.1 i j p q r) (fun i j p q r => by rw [HP2.out.2.1 i (by omega), HP2.out.2.1 j (by omega)]; exact PL.out.2.2.2.2.1 i j p q r) (by omega) (by omega))
            exact ⟨rfl, _, q1, q2, S5.out⟩
        · by_cases hr3x : e < b
          · skip
            have hr1a : (s : Int) < (m : Int) := by omega
            have hr1b : (m : Int) < ((a : Int) + (b : Int)) / 2 + (m : Int) - (s : Int) := by omega
            have hl3a : ¬ (a : Int) < (s : Int) := by omega
            have hr3a : ((a : Int) + (b : Int)) / 2 < ((a : Int) + (b : Int)) / 2 + (m : Int) - (s : Int) := by omega
            have hr3b : ((a : Int) + (b : Int)) / 2 + (m : Int) - (s : Int) < (b : Int) := by omega
            go_wp2_with fail
            have c1 := rotate_at 21 #[] blk off cap s m e d0 d w0 wr R hs S1.out (by omega) (by omega) (by omega) hsz
            rw [hez] at c1
            refine Calls.mono c1 ?_
            rintro _ w2 ⟨rfl, d1, hrt, hp1, hS1⟩
            have HRt : Hid (Rt s m e d d1) := hrt
            have HP1 : Hid (PermIn a b d d1) := permIn_mono d d1 s e a b (by omega) (by omega) hb hp1
            have S4 : Aside (S2 w0 blk off d1 w2) := hS1
            clear hrt hp1 hS1 c1
            go_wp2_with fail
            have PL : Hid _ := parts_left (lt := ltOf cf) (s := s) (e := e) (mid := (a + b) / 2) HL.out HR.out HF.out (by omega) (by omega) (by omega) (by omega) (by omega) HRt.out
            have HP2 : Hid (PermIn a ((a + b) / 2) d1 d1) := permIn_refl _ _ _
            have HS2 : Hid (SortedIn T a ((a + b) / 2) d1) := half_left PL.out.1 PL.out.2.1 (by omega) (by omega)
            have hz2 : d1.size = d.size := HP2.out.1.trans HP1.out.1
            have c3 := HI.out ((a + b) / 2) e b d1 w2 (by omega) (by omega) S4.out (by omega) (by omega) (by omega) (fun i j p q r => by rw [HP2.out.2.1 i (by omega), HP2.out.2.1 j (by omega)]; exact PL.out.2.2.2.1 i j p q r) (fun i j p q r => by rw [HP2.out.2.1 i (by omega), HP2.out.2.1 j (by omega)]; exact PL.out.2.2.2.2.1 i j p q r) (fun i j p q r t => by rw [HP2.out.2.1 i (by omega), HP2.out.2.1 j (by omega)]; exact PL.out.2.2.2.2.2 i j p q r t)
            rw [hmidz, hez, hz2] at c3
            refine Calls.mono c3 ?_
            rintro _ w4 ⟨rfl, d3, hp3, hs3, hS3⟩
            go_wp2_with fail
            go_end0
            obtain ⟨q1, q2⟩ := merge_main HO.out (s := s) (e := e) (mid := (a + b) / 2) hb HL.out HR.out (by omega) (by omega) (by omega) (by omega) (by omega) C1.out C2.out HRt.out HP1.out HP2.out HS2.out hp3 hs3
            exact ⟨rfl, d3, q1, q2, hS3⟩
          · skip
            have hr1a : (s : Int) < (m : Int) := by omega
            have hr1b : (m : Int) < ((a : Int) + (b : Int)) / 2 + (m : Int) - (s : Int) := by omega
            have hl3a : ¬ (a : Int) < (s : Int) := by omega
            have hr3a : ((a : Int) + (b : Int)) / 2 < ((a : Int) + (b : Int)) / 2 + (m : Int) - (s : Int) := by omega
            have hr3b : ¬ ((a : Int) + (b : Int)) / 2 + (m : Int) - (s : Int) < (b : Int) := by omega
            go_wp2_with fail
            have c1 := rotate_at 21 #[] blk off cap s m e d0 d w0 wr R hs S1.out (by omega) (by omega) (by omega) hsz
            rw [hez] at c1
            refine Calls.mono c1 ?_
            rintro _ w2 ⟨rfl, d1, hrt, hp1, hS1⟩
            have HRt : Hid (Rt s m e d d1) := hrt
            have HP1 : Hid (PermIn a b d d1) := permIn_mono d d1 s e a b (by omega) (by omega) hb hp1
            have S4 : Aside (S2 w0 blk off d1 w2) := hS1
            clear hrt hp1 hS1 c1
            go_wp2_with fail
            have PL : Hid _ := parts_left (lt := ltOf cf) (s := s) (e := e) (mid := (a + b) / 2) HL.out HR.out HF.out (by omega) (by omega) (by omega) (by omega) (by omega) HRt.out
            have HP2 : Hid (PermIn a ((a + b) / 2) d1 d1) := permIn_refl _ _ _
            have HS2 : Hid (SortedIn T a ((a + b) / 2) d1) := half_left PL.out.1 PL.out.2.1 (by omega) (by omega)
            go_end0
            obtain ⟨q1, q2⟩ := merge_main HO.out (s := s) (e := e) (mid := (a + b) / 2) (d3 := d1) hb HL.out HR.out (by omega) (by omega) (by omega) (by omega) (by omega) C1.out C2.out HRt.out HP1.out HP2.out HS2.out (permIn_refl _ _ _) (half_right (fun i j p q r => by rw [HP2.out.2.1 i (by omega), HP2.out.2.1 j (by omega)]; exact PL.out.2.2.2.1 i j p q r) (fun i j p q r => by rw [HP2.out.2.1 i (by omega), HP2.out.2.1 j (by omega)]; exact PL.out.2.2.2.2.1 i j p q r) (by omega) (by omega))
            exact ⟨rfl, _, q1, q2, S4.out⟩
      · skip
        have hr1a : (s : Int) < (m : Int) := by omega
        have hr1b : ¬ (m : Int) < ((a : Int) + (b : Int)) / 2 + (m : Int) - (s : Int) := by omega
        have hl3a : (a : Int) < (s : Int) := by omega
        have hl3b : ¬ (s : Int) < ((a : Int) + (b : Int)) / 2 := by omega
        have hr3a : ((a : Int) + (b : Int)) / 2 < ((a : Int) + (b : Int)) / 2 + (m : Int) - (s : Int) := by omega
        have hr3b : ((a : Int) + (b : Int)) / 2 + (m : Int) - (s : Int) < (b : Int) := by omega
        go_wp2_with fail
        have HRt : Hid (Rt s m e d d) := Rt.none d (by omega) (by omega) (by omega)
        have HP1 : Hid (PermIn a b d d) := permIn_refl _ _ _
        have PL : Hid _ := parts_left (lt := ltOf cf) (s := s) (e := e) (mid := (a + b) / 2) HL.out HR.out HF.out (by omega) (by omega) (by omega) (by omega) (by omega) HRt.out
        have HP2 : Hid (PermIn a ((a + b) / 2) d d) := permIn_refl _ _ _
        have HS2 : Hid (SortedIn T a ((a + b) / 2) d) := half_left PL.out.1 PL.out.2.1 (by omega) (by omega)
        have hz2 : d.size = d.size := HP2.out.1.trans HP1.out.1
        have c3 := HI.out ((a + b) / 2) e b d wr (by omega) (by omega) S1.out (by omega) (by omega) (by omega) (fun i j p q r => by rw [HP2.out.2.1 i (by omega), HP2.out.2.1 j (by omega)]; exact PL.out.2.2.2.1 i j p q r) (fun i j p q r => by rw [HP2.out.2.1 i (by omega), HP2.out.2.1 j (by omega)]; exact PL.out.2.2.2.2.1 i j p q r) (fun i j p q r t => by rw [HP2.out.2.1 i (by omega), HP2.out.2.1 j (by omega)]; exact PL.out.2.2.2.2.2 i j p q r t)
        rw [hmidz, hez, hz2] at c3
        refine Calls.mono c3 ?_
        rintro _ w4 ⟨rfl, d3, hp3, hs3, hS3⟩
        go_wp2_with fail
        go_end0
        obtain ⟨q1, q2⟩ := merge_main HO.out (s := s) (e := e) (mid := (a + b) / 2) hb HL.out HR.out (by omega) (by omega) (by omega) (by omega) (by omega) C1.out C2.out HRt.out HP1.out HP2.out HS2.out hp3 hs3
        exact ⟨rfl, d3, q1, q2, hS3⟩
end Go.Proofs.YtkldnapbeebdkaaDoor.st
