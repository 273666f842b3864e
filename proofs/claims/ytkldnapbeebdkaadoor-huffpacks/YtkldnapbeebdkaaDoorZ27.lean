/- Texts laid together: Su4, LayT. -/
import Derived.Test.YtkldnapbeebdkaaDoorZ26
import Derived.Test.YtkldnapbeebdkaaDoorChecked
import Derived.Shelf.GgSortMore.Lays
/- A row sorted by 'less' and 'swap': two sorted parts merged where they stand, the other way. -/
namespace Go.Proofs.YtkldnapbeebdkaaDoor.su
set_option linter.unusedVariables false
open Go.Shelf Go.RowKit Go.Lib Go.Sort
open mem st
variable {α : Type} [Inhabited α]
set_option maxHeartbeats 16000000 in
set_option maxRecDepth 1000000 in
theorem sym_b (T : α → α → Bool) (hO : SWO T) {enc : α → Value} {lt : α → α → Bool} {g : Nat} {lb : Array Value} {sf : Nat} {sb : Array Value} {w0 : World} {blk off : Nat} {d0 : Array α} (L : Ls enc lt g lb sf sb w0 blk off d0) (a m b : Nat) (d : Array α) (w : World) (hs : d.size = d0.size) (S : SW enc w0 blk off d w) (ham : a + 1 < m) (hmb : m + 1 < b) (hb : b ≤ d.size) (hsz : d.size < 4611686018427387904)
    (hl : SortedIn T a m d) (hr : SortedIn T m b d) (hf : st.Fair lt T a m b d)
    (hmid : ¬ (a + b) / 2 < m)
    (IH : ∀ (a' m' b' : Nat) (d' : Array α) (w' : World), b' - a' < b - a → d'.size = d0.size → SW enc w0 blk off d' w' → a' < m' → m' < b' → b' ≤ d'.size → SortedIn T a' m' d' → SortedIn T m' b' d' → st.Fair lt T a' m' b' d' →
      Calls Tryd.prog 65 #[dv g lb sf sb, .int .i64 a', .int .i64 m', .int .i64 b'] w' fun e w'' => e = .returned (.tuple #[]) ∧ ∃ d'', PermIn a' b' d' d'' ∧ SortedIn T a' b' d'' ∧ St enc w0 blk off d'' w' w'') :
    Calls Tryd.prog 65 #[dv g lb sf sb, .int .i64 a, .int .i64 m, .int .i64 b] w fun e w' => e = .returned (.tuple #[]) ∧ ∃ d', PermIn a b d d' ∧ SortedIn T a b d' ∧ St enc w0 blk off d' w w' := by
  have mixed := mixedP
  have eg := L.eg
  have hbw : blk < w.heap.size := S.lt L.hblk
  have SB : Aside (St enc w0 blk off d w (w.alloc (bxo g lb sf sb))) := St.boxed S _
  have S0 : Aside (St enc w0 blk off d (w.alloc (bxo g lb sf sb)) (w.alloc (bxo g lb sf sb))) := ⟨S.alloc _, World.grownBy.refl _ _⟩
  have HL : Hid (SortedIn T a m d) := hl
  have HR : Hid (SortedIn T m b d) := hr
  have HF : Hid (st.Fair lt T a m b d) := hf
  have HO : Hid (SWO T) := hO
  have HI : Aside _ := IH
  clear S hl hr hf hO IH
  have h1 : (((m : Int) - (a : Int)) == 1) = false := by rw [beq_eq_false_iff_ne]; omega
  have h2 : (((b : Int) - (m : Int)) == 1) = false := by rw [beq_eq_false_iff_ne]; omega
  go_enter Tryd.func65, Tryd.ntmps65
  have hmz : ¬ ((a : Int) + (b : Int)) / 2 < (m : Int) := by omega
  go_wp2
  go_loopg [18, 19] (b - a) (fun kx s20 s21 wr => ∃ (s r : Nat), s20 = .int .i64 s ∧ s21 = .int .i64 r ∧ a ≤ s ∧ s ≤ r ∧ r ≤ m ∧ r - s ≤ kx ∧ Hid ((s = a ∨ (a < s ∧ T d[(a + b) / 2 + m - s]! d[s - 1]! = false)) ∧ (r = m ∨ T d[(a + b) / 2 + m - 1 - r]! d[r]! = true)) ∧ Aside (St enc w0 blk off d (w.alloc (bxo g lb sf sb)) wr))
  case atStart => exact ⟨a, m, by first | rfl | (congr 1; done) | (congr 1; omega), by first | rfl | (congr 1; done) | (congr 1; omega), Nat.le_refl _, by omega, Nat.le_refl _, by omega, ⟨Or.inl rfl, Or.inl rfl⟩, S0⟩
  case round =>
    clear S0
    obtain ⟨s, r, rfl, rfl, hs0, hsr, hr0, hkx, H, S1⟩ := hrel
    obtain ⟨bx0, bx1⟩ := S1.out.box hbw
    by_cases hlt : s < r
    · have hltz : (s : Int) < r := by omega
      clear HI
      go_wp2_with fail
      obtain ⟨pc, hpc⟩ : ∃ pc, pc = (a + b) / 2 + m - 1 - (s + r) / 2 := ⟨_, rfl⟩
      have hpcz : ((a : Int) + (b : Int)) / 2 + (m : Int) - 1 - ((s : Int) + (r : Int)) / 2 = (pc : Int) := by omega
      have hpc1 : m ≤ pc := by omega
      have hpc2 : pc < b := by omega
      have HPC : Hid (pc = (a + b) / 2 + m - 1 - (s + r) / 2) := hpc
      clear hpc
      have HFh : Hid (lt d[pc]! d[(s + r) / 2]! = T d[pc]! d[(s + r) / 2]!) := HF.out ((s + r) / 2) pc (by omega) (by omega) (by omega) (by omega)
      cases hlv : lt d[pc]! d[(s + r) / 2]! with
      | false =>
        have HT : Hid (T d[pc]! d[(s + r) / 2]! = false) := by rw [← HFh.out]; exact hlv
        refine (L.less S1.out (by omega) (pc) ((s + r) / 2) (((a : Int) + (b : Int)) / 2 + (m : Int) - 1 - ((s : Int) + (r : Int)) / 2) (((s : Int) + (r : Int)) / 2) (by omega) (by omega) (by omega) (by omega) false hlv).mono ?_
        rintro _ w2 ⟨rfl, S3⟩
        clear bx0 bx1 S1
        go_wp2
        go_roundg (r - ((s + r) / 2 + 1))
        case measure => omega
        case rel => exact ⟨(s + r) / 2 + 1, r, by first | rfl | (congr 1; done) | (congr 1; omega), rfl, by omega, by omega, hr0, Nat.le_refl _, ⟨Or.inr ⟨by omega, by rw [show (a + b) / 2 + m - ((s + r) / 2 + 1) = pc by have := HPC.out; omega]; exact HT.out⟩, H.out.2⟩, S3⟩
      | true =>
        have HT : Hid (T d[pc]! d[(s + r) / 2]! = true) := by rw [← HFh.out]; exact hlv
        refine (L.less S1.out (by omega) (pc) ((s + r) / 2) (((a : Int) + (b : Int)) / 2 + (m : Int) - 1 - ((s : Int) + (r : Int)) / 2) (((s : Int) + (r : Int)) / 2) (by omega) (by omega) (by omega) (by omega) true hlv).mono ?_
        rintro _ w2 ⟨rfl, S3⟩
        clear bx0 bx1 S1
        go_wp2
        go_roundg ((s + r) / 2 - s)
        case measure => omega
        case rel => exact ⟨s, (s + r) / 2, rfl, by first | rfl | (congr 1; done) | (congr 1; omega), hs0, by omega, by omega, Nat.le_refl _, ⟨H.out.1, Or.inr (by rw [← HPC.out]; exact HT.out)⟩, S3⟩
    · have hltz : ¬ (s : Int) < r := by omega
      have hsr2 : r = s := by omega
      have C1 : Hid (s < m → m < (a + b) / 2 + m - s → T d[(a + b) / 2 + m - s - 1]! d[s]! = true) := fun p q => by
        rcases H.out.2 with h | h
        · omega
        · rw [hsr2] at h
          rw [show (a + b) / 2 + m - s - 1 = (a + b) / 2 + m - 1 - s by omega]
          exact h
      have C2 : Hid (a < s → (a + b) / 2 + m - s < b → T d[(a + b) / 2 + m - s]! d[s - 1]! = false) := fun p q => by
        rcases H.out.1 with h | h
        · omega
        · exact h.2
      clear H
      obtain ⟨e, he⟩ : ∃ e, e = (a + b) / 2 + m - s := ⟨_, rfl⟩
      rw [← he] at C1 C2
      have hez : (e : Int) = ((a : Int) + (b : Int)) / 2 + (m : Int) - (s : Int) := by omega
      have hmidz : (((a + b) / 2 : Nat) : Int) = ((a : Int) + (b : Int)) / 2 := by omega
      by_cases hr1 : s < m ∧ m < e
      · by_cases hl3 : a < s
        · by_cases hr3x : e < b
          · skip
            have hr1a : (s : Int) < (m : Int) := by omega
            have hr1b : (m : Int) < ((a : Int) + (b : Int)) / 2 + (m : Int) - (s : Int) := by omega
            have hl3a : (a : Int) < (s : Int) := by omega
            have hl3b : (s : Int) < ((a : Int) + (b : Int)) / 2 := by omega
            have hr3a : ((a : Int) + (b : Int)) / 2 < ((a : Int) + (b : Int)) / 2 + (m : Int) - (s : Int) := by omega
            have hr3b : ((a : Int) + (b : Int)) / 2 + (m : Int) - (s : Int) < (b : Int) := by omega
            go_wp2_with fail
            have c1 := rotate_at L s m e d wr hs S1.out.1 (by omega) (by omega) (by omega) hsz
            rw [hez] at c1
            refine Calls.mono c1 ?_
            rintro _ w2 ⟨rfl, d1, hrt, hp1, hS1⟩
            have HRt : Hid (Rt s m e d d1) := hrt
            have HP1 : Hid (PermIn a b d d1) := permIn_mono d d1 s e a b (by omega) (by omega) hb hp1
            have S4 : Aside (St enc w0 blk off d1 (w.alloc (bxo g lb sf sb)) w2) := S1.out.trans hS1
            clear bx0 bx1
            obtain ⟨bx0, bx1⟩ := S4.out.box hbw
            clear hrt hp1 hS1 c1
            go_wp2_with fail
            have PL : Hid _ := parts_left (lt := lt) (s := s) (e := e) (mid := (a + b) / 2) HL.out HR.out HF.out (by omega) (by omega) (by omega) (by omega) (by omega) HRt.out
            have hz1 : d1.size = d.size := HP1.out.1
            have c2 := HI.out a s ((a + b) / 2) d1 w2 (by omega) (by omega) S4.out.1 (by omega) (by omega) (by omega) PL.out.1 PL.out.2.1 PL.out.2.2.1
            rw [hmidz] at c2
            refine Calls.mono c2 ?_
            rintro _ w3 ⟨rfl, d2, hp2, hs2, hS2⟩
            have HP2 : Hid (PermIn a ((a + b) / 2) d1 d2) := hp2
            have HS2 : Hid (SortedIn T a ((a + b) / 2) d2) := hs2
            have S5 : Aside (St enc w0 blk off d2 (w.alloc (bxo g lb sf sb)) w3) := S4.out.trans hS2
            clear bx0 bx1
            obtain ⟨bx0, bx1⟩ := S5.out.box hbw
            clear hp2 hs2 hS2 c2
            go_wp2_with fail
            have hz2 : d2.size = d.size := HP2.out.1.trans HP1.out.1
            have c3 := HI.out ((a + b) / 2) e b d2 w3 (by omega) (by omega) S5.out.1 (by omega) (by omega) (by omega) (fun i j p q r => by rw [HP2.out.2.1 i (by omega), HP2.out.2.1 j (by omega)]; exact PL.out.2.2.2.1 i j p q r) (fun i j p q r => by rw [HP2.out.2.1 i (by omega), HP2.out.2.1 j (by omega)]; exact PL.out.2.2.2.2.1 i j p q r) (fun i j p q r t => by rw [HP2.out.2.1 i (by omega), HP2.out.2.1 j (by omega)]; exact PL.out.2.2.2.2.2 i j p q r t)
            rw [hmidz, hez] at c3
            refine Calls.mono c3 ?_
            rintro _ w4 ⟨rfl, d3, hp3, hs3, hS3⟩
            go_wp2_with fail
            go_end0
            obtain ⟨q1, q2⟩ := merge_main HO.out (s := s) (e := e) (mid := (a + b) / 2) hb HL.out HR.out (by omega) (by omega) (by omega) (by omega) (by omega) C1.out C2.out HRt.out HP1.out HP2.out HS2.out hp3 hs3
            exact ⟨rfl, d3, q1, q2, SB.out.trans (S5.out.trans hS3)⟩
          · exfalso; omega
        · by_cases hr3x : e < b
          · skip
            have hr1a : (s : Int) < (m : Int) := by omega
            have hr1b : (m : Int) < ((a : Int) + (b : Int)) / 2 + (m : Int) - (s : Int) := by omega
            have hl3a : ¬ (a : Int) < (s : Int) := by omega
            have hr3a : ((a : Int) + (b : Int)) / 2 < ((a : Int) + (b : Int)) / 2 + (m : Int) - (s : Int) := by omega
            have hr3b : ((a : Int) + (b : Int)) / 2 + (m : Int) - (s : Int) < (b : Int) := by omega
            go_wp2_with fail
            have c1 := rotate_at L s m e d wr hs S1.out.1 (by omega) (by omega) (by omega) hsz
            rw [hez] at c1
            refine Calls.mono c1 ?_
            rintro _ w2 ⟨rfl, d1, hrt, hp1, hS1⟩
            have HRt : Hid (Rt s m e d d1) := hrt
            have HP1 : Hid (PermIn a b d d1) := permIn_mono d d1 s e a b (by omega) (by omega) hb hp1
            have S4 : Aside (St enc w0 blk off d1 (w.alloc (bxo g lb sf sb)) w2) := S1.out.trans hS1
            clear bx0 bx1
            obtain ⟨bx0, bx1⟩ := S4.out.box hbw
            clear hrt hp1 hS1 c1
            go_wp2_with fail
            have PL : Hid _ := parts_left (lt := lt) (s := s) (e := e) (mid := (a + b) / 2) HL.out HR.out HF.out (by omega) (by omega) (by omega) (by omega) (by omega) HRt.out
            have HP2 : Hid (PermIn a ((a + b) / 2) d1 d1) := permIn_refl _ _ _
            have HS2 : Hid (SortedIn T a ((a + b) / 2) d1) := half_left PL.out.1 PL.out.2.1 (by omega) (by omega)
            have hz2 : d1.size = d.size := HP2.out.1.trans HP1.out.1
            have c3 := HI.out ((a + b) / 2) e b d1 w2 (by omega) (by omega) S4.out.1 (by omega) (by omega) (by omega) (fun i j p q r => by rw [HP2.out.2.1 i (by omega), HP2.out.2.1 j (by omega)]; exact PL.out.2.2.2.1 i j p q r) (fun i j p q r => by rw [HP2.out.2.1 i (by omega), HP2.out.2.1 j (by omega)]; exact PL.out.2.2.2.2.1 i j p q r) (fun i j p q r t => by rw [HP2.out.2.1 i (by omega), HP2.out.2.1 j (by omega)]; exact PL.out.2.2.2.2.2 i j p q r t)
            rw [hmidz, hez] at c3
            refine Calls.mono c3 ?_
            rintro _ w4 ⟨rfl, d3, hp3, hs3, hS3⟩
            go_wp2_with fail
            go_end0
            obtain ⟨q1, q2⟩ := merge_main HO.out (s := s) (e := e) (mid := (a + b) / 2) hb HL.out HR.out (by omega) (by omega) (by omega) (by omega) (by omega) C1.out C2.out HRt.out HP1.out HP2.out HS2.out hp3 hs3
            exact ⟨rfl, d3, q1, q2, SB.out.trans (S4.out.trans hS3)⟩
          · skip
            have hr1a : (s : Int) < (m : Int) := by omega
            have hr1b : (m : Int) < ((a : Int) + (b : Int)) / 2 + (m : Int) - (s : Int) := by omega
            have hl3a : ¬ (a : Int) < (s : Int) := by omega
            have hr3a : ((a : Int) + (b : Int)) / 2 < ((a : Int) + (b : Int)) / 2 + (m : Int) - (s : Int) := by omega
            have hr3b : ¬ ((a : Int) + (b : Int)) / 2 + (m : Int) - (s : Int) < (b : Int) := by omega
            go_wp2_with fail
            have c1 := rotate_at L s m e d wr hs S1.out.1 (by omega) (by omega) (by omega) hsz
            rw [hez] at c1
            refine Calls.mono c1 ?_
            rintro _ w2 ⟨rfl, d1, hrt, hp1, hS1⟩
            have HRt : Hid (Rt s m e d d1) := hrt
            have HP1 : Hid (PermIn a b d d1) := permIn_mono d d1 s e a b (by omega) (by omega) hb hp1
            have S4 : Aside (St enc w0 blk off d1 (w.alloc (bxo g lb sf sb)) w2) := S1.out.trans hS1
            clear bx0 bx1
            obtain ⟨bx0, bx1⟩ := S4.out.box hbw
            clear hrt hp1 hS1 c1
            go_wp2_with fail
            have PL : Hid _ := parts_left (lt := lt) (s := s) (e := e) (mid := (a + b) / 2) HL.out HR.out HF.out (by omega) (by omega) (by omega) (by omega) (by omega) HRt.out
            have HP2 : Hid (PermIn a ((a + b) / 2) d1 d1) := permIn_refl _ _ _
            have HS2 : Hid (SortedIn T a ((a + b) / 2) d1) := half_left PL.out.1 PL.out.2.1 (by omega) (by omega)
            go_end0
            obtain ⟨q1, q2⟩ := merge_main HO.out (s := s) (e := e) (mid := (a + b) / 2) (d3 := d1) hb HL.out HR.out (by omega) (by omega) (by omega) (by omega) (by omega) C1.out C2.out HRt.out HP1.out HP2.out HS2.out (permIn_refl _ _ _) (half_right (fun i j p q r => by rw [HP2.out.2.1 i (by omega), HP2.out.2.1 j (by omega)]; exact PL.out.2.2.2.1 i j p q r) (fun i j p q r => by rw [HP2.out.2.1 i (by omega), HP2.out.2.1 j (by omega)]; exact PL.out.2.2.2.2.1 i j p q r) (by omega) (by omega))
            exact ⟨rfl, _, q1, q2, SB.out.trans S4.out⟩
      · by_cases hl3 : s < (a + b) / 2
        · skip
          have hr1a : ¬ (s : Int) < (m : Int) := by omega
          have hl3a : (a : Int) < (s : Int) := by omega
          have hl3b : (s : Int) < ((a : Int) + (b : Int)) / 2 := by omega
          have hr3a : ¬ ((a : Int) + (b : Int)) / 2 < ((a : Int) + (b : Int)) / 2 + (m : Int) - (s : Int) := by omega
          go_wp2_with fail
          have HRt : Hid (Rt s m e d d) := Rt.none d (by omega) (by omega) (by omega)
          have HP1 : Hid (PermIn a b d d) := permIn_refl _ _ _
          have PL : Hid _ := parts_left (lt := lt) (s := s) (e := e) (mid := (a + b) / 2) HL.out HR.out HF.out (by omega) (by omega) (by omega) (by omega) (by omega) HRt.out
          have hz1 : d.size = d.size := HP1.out.1
          have c2 := HI.out a s ((a + b) / 2) d wr (by omega) (by omega) S1.out.1 (by omega) (by omega) (by omega) PL.out.1 PL.out.2.1 PL.out.2.2.1
          rw [hmidz] at c2
          refine Calls.mono c2 ?_
          rintro _ w3 ⟨rfl, d2, hp2, hs2, hS2⟩
          have HP2 : Hid (PermIn a ((a + b) / 2) d d2) := hp2
          have HS2 : Hid (SortedIn T a ((a + b) / 2) d2) := hs2
          have S5 : Aside (St enc w0 blk off d2 (w.alloc (bxo g lb sf sb)) w3) := S1.out.trans hS2
          clear bx0 bx1
          obtain ⟨bx0, bx1⟩ := S5.out.box hbw
          clear hp2 hs2 hS2 c2
          go_wp2_with fail
          go_end0
          obtain ⟨q1, q2⟩ := merge_main HO.out (s := s) (e := e) (mid := (a + b) / 2) (d3 := d2) hb HL.out HR.out (by omega) (by omega) (by omega) (by omega) (by omega) C1.out C2.out HRt.out HP1.out HP2.out HS2.out (permIn_refl _ _ _) (half_right (fun i j p q r => by rw [HP2.out.2.1 i (by omega), HP2.out.2.1 j (by omega)]; exact PL.out.2.2.2.1 i j p q r) (fun i j p q r => by rw [HP2.out.2.1 i (by omega), HP2.out.2.1 j (by omega)]; exact PL.out.2.2.2.2.1 i j p q r) (by omega) (by omega))
          exact ⟨rfl, _, q1, q2, SB.out.trans S5.out⟩
        · skip
          have hr1a : ¬ (s : Int) < (m : Int) := by omega
          have hl3a : (a : Int) < (s : Int) := by omega
          have hl3b : ¬ (s : Int) < ((a : Int) + (b : Int)) / 2 := by omega
          have hr3a : ¬ ((a : Int) + (b : Int)) / 2 < ((a : Int) + (b : Int)) / 2 + (m : Int) - (s : Int) := by omega
          go_wp2_with fail
          have HRt : Hid (Rt s m e d d) := Rt.none d (by omega) (by omega) (by omega)
          have HP1 : Hid (PermIn a b d d) := permIn_refl _ _ _
          have PL : Hid _ := parts_left (lt := lt) (s := s) (e := e) (mid := (a + b) / 2) HL.out HR.out HF.out (by omega) (by omega) (by omega) (by omega) (by omega) HRt.out
          have HP2 : Hid (PermIn a ((a + b) / 2) d d) := permIn_refl _ _ _
          have HS2 : Hid (SortedIn T a ((a + b) / 2) d) := half_left PL.out.1 PL.out.2.1 (by omega) (by omega)
          go_end0
          obtain ⟨q1, q2⟩ := merge_main HO.out (s := s) (e := e) (mid := (a + b) / 2) (d3 := d) hb HL.out HR.out (by omega) (by omega) (by omega) (by omega) (by omega) C1.out C2.out HRt.out HP1.out HP2.out HS2.out (permIn_refl _ _ _) (half_right (fun i j p q r => by rw [HP2.out.2.1 i (by omega), HP2.out.2.1 j (by omega)]; exact PL.out.2.2.2.1 i j p q r) (fun i j p q r => by rw [HP2.out.2.1 i (by omega), HP2.out.2.1 j (by omega)]; exact PL.out.2.2.2.2.1 i j p q r) (by omega) (by omega))
          exact ⟨rfl, _, q1, q2, SB.out.trans S1.out⟩
end Go.Proofs.YtkldnapbeebdkaaDoor.su
/- The library's own texts that a call comes to, as this program has them: laid on the shelf's. -/
namespace Go.Proofs.YtkldnapbeebdkaaDoor.layT
open Go.Shelf
def rf : FuncId → FuncId
  | 0 => 0
  | 1 => 1
  | 2 => 2
  | 8 => 25
  | 13 => 39
  | 14 => 40
  | 15 => 41
  | 16 => 42
  | 20 => 55
  | 21 => 56
  | 22 => 57
  | 23 => 58
  | 24 => 59
  | 25 => 60
  | 26 => 61
  | 27 => 62
  | 28 => 63
  | 29 => 64
  | 30 => 65
  | 42 => 69
  | 49 => 77
  | 52 => 81
  | 53 => 82
  | 54 => 83
  | 55 => 84
  | 56 => 85
  | 57 => 86
  | 58 => 87
  | 59 => 88
  | 60 => 89
  | 61 => 90
  | 62 => 91
  | 63 => 92
  | 64 => 93
  | 66 => 96
  | 67 => 97
  | 74 => 99
  | 76 => 106
  | 77 => 107
  | 78 => 108
  | x => x
def rt : TypeId → TypeId
  | 0 => 0
  | 1 => 1
  | 2 => 2
  | 3 => 3
  | 4 => 4
  | 5 => 5
  | 6 => 6
  | 7 => 7
  | 8 => 8
  | 9 => 9
  | 10 => 10
  | 11 => 11
  | 12 => 12
  | 13 => 13
  | 14 => 14
  | 15 => 15
  | 16 => 16
  | 17 => 17
  | 18 => 18
  | 19 => 19
  | 20 => 20
  | 21 => 21
  | 23 => 56
  | 26 => 57
  | 28 => 22
  | 33 => 76
  | 34 => 77
  | 35 => 78
  | 36 => 79
  | 37 => 80
  | 38 => 81
  | 39 => 82
  | 40 => 83
  | 41 => 84
  | 42 => 85
  | 43 => 86
  | 47 => 59
  | 50 => 110
  | 51 => 111
  | 52 => 112
  | 53 => 113
  | 54 => 114
  | 56 => 147
  | 58 => 54
  | 76 => 140
  | 77 => 141
  | 78 => 142
  | 79 => 143
  | 80 => 144
  | 81 => 145
  | 82 => 148
  | 83 => 124
  | 84 => 149
  | 85 => 150
  | 86 => 151
  | 87 => 152
  | 88 => 153
  | 89 => 154
  | 90 => 155
  | 91 => 156
  | x => x
def ren : Ren := ⟨rf, rt, fun x => x⟩
set_option maxRecDepth 100000 in
theorem laid : LaysGt.n8 Tryd.prog ren where
  mixed := by kernel_rfl
  f8 := by kernel_rfl
  f13 := by kernel_rfl
  f14 := by kernel_rfl
  f15 := by kernel_rfl
  f16 := by kernel_rfl
  f29 := by kernel_rfl
  f30 := by kernel_rfl
  f42 := by kernel_rfl
  f49 := by kernel_rfl
  t0 := by kernel_rfl
  a0 := fun _ => by kernel_rfl
  z0 := fun _ => by kernel_rfl
  v0 := fun _ => by kernel_rfl
  i0 := by kernel_rfl
  t3 := by kernel_rfl
  a3 := fun _ => by kernel_rfl
  z3 := fun _ => by kernel_rfl
  v3 := fun _ => by kernel_rfl
  i3 := by kernel_rfl
  t4 := by kernel_rfl
  a4 := fun _ => by kernel_rfl
  z4 := fun _ => by kernel_rfl
  v4 := fun _ => by kernel_rfl
  i4 := by kernel_rfl
  t5 := by kernel_rfl
  a5 := fun _ => by kernel_rfl
  z5 := fun _ => by kernel_rfl
  v5 := fun _ => by kernel_rfl
  i5 := by kernel_rfl
  t12 := by kernel_rfl
  a12 := fun _ => by kernel_rfl
  z12 := fun _ => by kernel_rfl
  v12 := fun _ => by kernel_rfl
  i12 := by kernel_rfl
  t17 := by kernel_rfl
  a17 := fun _ => by kernel_rfl
  z17 := fun _ => by kernel_rfl
  v17 := fun _ => by kernel_rfl
  i17 := by kernel_rfl
  t20 := by kernel_rfl
  a20 := fun _ => by kernel_rfl
  z20 := fun _ => by kernel_rfl
  v20 := fun _ => by kernel_rfl
  i20 := by kernel_rfl
  t26 := by kernel_rfl
  a26 := fun _ => by kernel_rfl
  z26 := fun _ => by kernel_rfl
  v26 := fun _ => by kernel_rfl
  i26 := by kernel_rfl
  t33 := by kernel_rfl
  a33 := fun _ => by kernel_rfl
  z33 := fun _ => by kernel_rfl
  v33 := fun _ => by kernel_rfl
  i33 := by kernel_rfl
  t34 := by kernel_rfl
  a34 := fun _ => by kernel_rfl
  z34 := fun _ => by kernel_rfl
  v34 := fun _ => by kernel_rfl
  i34 := by kernel_rfl
  t36 := by kernel_rfl
  a36 := fun _ => by kernel_rfl
  z36 := fun _ => by kernel_rfl
  v36 := fun _ => by kernel_rfl
  i36 := by kernel_rfl
  t38 := by kernel_rfl
  a38 := fun _ => by kernel_rfl
  z38 := fun _ => by kernel_rfl
  v38 := fun _ => by kernel_rfl
  i38 := by kernel_rfl
  t42 := by kernel_rfl
  a42 := fun _ => by kernel_rfl
  z42 := fun _ => by kernel_rfl
  v42 := fun _ => by kernel_rfl
  i42 := by kernel_rfl
  t47 := by kernel_rfl
  a47 := fun _ => by kernel_rfl
  z47 := fun _ => by kernel_rfl
  v47 := fun _ => by kernel_rfl
  i47 := by kernel_rfl
  t56 := by kernel_rfl
  a56 := fun _ => by kernel_rfl
  z56 := fun _ => by kernel_rfl
  v56 := fun _ => by kernel_rfl
  i56 := by kernel_rfl
  t82 := by kernel_rfl
  a82 := fun _ => by kernel_rfl
  z82 := fun _ => by kernel_rfl
  v82 := fun _ => by kernel_rfl
  i82 := by kernel_rfl
  t83 := by kernel_rfl
  a83 := fun _ => by kernel_rfl
  z83 := fun _ => by kernel_rfl
  v83 := fun _ => by kernel_rfl
  i83 := by kernel_rfl
  t84 := by kernel_rfl
  a84 := fun _ => by kernel_rfl
  z84 := fun _ => by kernel_rfl
  v84 := fun _ => by kernel_rfl
  i84 := by kernel_rfl
  t85 := by kernel_rfl
  a85 := fun _ => by kernel_rfl
  z85 := fun _ => by kernel_rfl
  v85 := fun _ => by kernel_rfl
  i85 := by kernel_rfl
  t86 := by kernel_rfl
  a86 := fun _ => by kernel_rfl
  z86 := fun _ => by kernel_rfl
  v86 := fun _ => by kernel_rfl
  i86 := by kernel_rfl
  t87 := by kernel_rfl
  a87 := fun _ => by kernel_rfl
  z87 := fun _ => by kernel_rfl
  v87 := fun _ => by kernel_rfl
  i87 := by kernel_rfl
  t89 := by kernel_rfl
  a89 := fun _ => by kernel_rfl
  z89 := fun _ => by kernel_rfl
  v89 := fun _ => by kernel_rfl
  i89 := by kernel_rfl
end Go.Proofs.YtkldnapbeebdkaaDoor.layT
