/- Groups in a row: the whole sort. -/
import Derived.Test.YtkldnapbeebdkaaDoorSt6
namespace Go.Proofs.YtkldnapbeebdkaaDoor.st
set_option linter.unusedVariables false
open Go.Shelf Go.RowKit Go.Lib Go.Sort
open mem
/-- Sorted by inserting, between two places. -/
theorem insertion_at (blk off cap a b : Nat) (d0 d : Array (Gv × Nat)) (w0 w : World) (R : R2 w0 blk off d0) (hs : d0.size = d.size) (S : S2 w0 blk off d w) (hab : a ≤ b) (hb : b ≤ d.size) (hsz : d.size < 4611686018427387904) (ht : ∀ x, a ≤ x → x < b → d[x]!.2 = x) :
    Calls Tryd.prog 52 #[.slice (some ⟨blk, off, none⟩) d.size cap, .int .i64 a, .int .i64 b, fnv] w fun e w' => e = .returned (.tuple #[]) ∧ ∃ d', PermIn a b d d' ∧ SortedIn T a b d' ∧ S2 w0 blk off d' w' := by
  have eg : ∀ args w, (callFunc 21 args).run Tryd.prog w = .ok (.enter 21 args) w := enters_of Tryd.func21 (by kernel_rfl) rfl
  have hblk : blk < w.heap.size := SWK.lt S R.hblk
  have hc := AnyQ.insertionSortCmpFunc layS.laid 2 (fun w => by kernel_rfl) (fun w => by kernel_rfl) enc enc_len enc_one cf 21 #[] blk off cap a b d w eg (cmp_lays blk off d.size w) (SWK.holds S R.hblk R.hH (by omega)) hblk hab hb hsz
  refine hc.mono ?_
  rintro e w' ⟨rfl, n, os, rfl⟩
  obtain ⟨h1, h2⟩ := insertion_T hab hb ht
  exact ⟨rfl, _, h1, h2, SWK.on S R.hblk n _ os h1.1⟩
set_option maxHeartbeats 16000000 in
set_option maxRecDepth 1000000 in
theorem stable_at (blk off cap : Nat) (d : Array (Gv × Nat)) (w : World) (R : R2 w blk off d) (hsz : d.size ≤ 20000) (ht : ∀ x, x < d.size → d[x]!.2 = x) :
    Calls Tryd.prog 36 #[.slice (some ⟨blk, off, none⟩) d.size cap, .int .i64 d.size, fnv] w fun e w' => e = .returned (.tuple #[]) ∧ ∃ d', PermIn 0 d.size d d' ∧ SortedIn T 0 d.size d' ∧ S2 w blk off d' w' := by
  have S0 : Aside (S2 w blk off d w) := SWK.start R.hH
  have HT : Hid (∀ x, x < d.size → d[x]!.2 = x) := ht
  obtain ⟨n, hn⟩ : ∃ n, n = d.size := ⟨_, rfl⟩
  rw [← hn] at hsz ⊢
  have HN : Hid (n = d.size) := hn
  clear ht hn
  go_enter Tryd.func36, Tryd.ntmps36
  go_wp2
  go_loopg [7, 8] n (fun kx s7 s8 wr => ∃ (q a : Nat) (dk : Array (Gv × Nat)), s7 = .int .i64 a ∧ s8 = .int .i64 ((a : Int) + 20) ∧ a ≤ n ∧ n - a ≤ kx ∧ Hid (a = q * 20 ∧ dk.size = n ∧ PermIn 0 n d dk ∧ (∀ x, a ≤ x → x < n → dk[x]!.2 = x) ∧ (∀ i j, i < j → j < a → i / 20 = j / 20 → T dk[j]! dk[i]! = false) ∧ Tg 20 n dk) ∧ Aside (S2 w blk off dk wr))
  case atStart => exact ⟨0, 0, d, rfl, rfl, by omega, by omega, ⟨by omega, HN.out.symm, permIn_refl _ _ _, fun x _ h => HT.out x (by rw [← HN.out]; exact h), fun i j _ h => by omega, fun i hi => by rw [HT.out i (by rw [← HN.out]; exact hi)]⟩, S0⟩
  case round =>
    clear S0
    obtain ⟨q, a, dk, rfl, rfl, han, hkx, H, S1⟩ := hrel
    obtain ⟨haq, hz, hp, h1, h2, h3⟩ := H.out
    by_cases hlt : a + 20 ≤ n
    · have hltz : (a : Int) + 20 ≤ n := by omega
      have c := insertion_at blk off cap a (a + 20) d dk w wr R (by have := HN.out; omega) S1.out (by omega) (by omega) (by omega) (fun x p q => h1 x p (by omega))
      rw [hz, show ((a + 20 : Nat) : Int) = (a : Int) + 20 by omega] at c
      clear haq hz hp h1 h2 h3
      go_wp2_with fail
      refine Calls.mono c ?_
      rintro _ w2 ⟨rfl, d1, p1, s1, S3⟩
      have HP : Hid (PermIn a (a + 20) dk d1) := p1
      have HS : Hid (SortedIn T a (a + 20) d1) := s1
      have S4 : Aside (S2 w blk off d1 w2) := S3
      clear p1 s1 S3 c S1
      go_wp2
      go_roundg (n - (a + 20))
      case measure => omega
      case rel =>
        obtain ⟨haq, hz, hp, h1, h2, h3⟩ := H.out
        refine ⟨q + 1, a + 20, d1, by first | rfl | go_num | (congr 1; omega), by first | rfl | go_num | (congr 1; omega), hlt, Nat.le_refl _, ⟨by omega, HP.out.1.trans hz, permIn_trans _ _ _ _ _ hp (permIn_mono dk d1 a (a + 20) 0 n (by omega) (by omega) (by omega) HP.out), fun x p q => by rw [HP.out.2.1 x (by omega)]; exact h1 x (by omega) q, fun i j hij hj hd => ?_, tg_perm h3 (by omega) hlt HP.out (fun i j p q r t => by omega)⟩, S4⟩
        by_cases hja : j < a
        · rw [HP.out.2.1 i (by omega), HP.out.2.1 j (by omega)]; exact h2 i j hij hja hd
        · exact HS.out i j (by omega) hij hj
    · have hltz : ¬ (a : Int) + 20 ≤ n := by omega
      have c := insertion_at blk off cap a n d dk w wr R (by have := HN.out; omega) S1.out (by omega) (by omega) (by omega) (fun x p q => h1 x p (by omega))
      rw [hz] at c
      clear haq hz hp h1 h2 h3
      go_wp2_with fail
      refine Calls.mono c ?_
      rintro _ w2 ⟨rfl, d1, p1, s1, S3⟩
      have HB : Hid (d1.size = n ∧ PermIn 0 n d d1 ∧ Bk 20 n d1 ∧ Tg 20 n d1) := by
        obtain ⟨haq, hz, hp, h1, h2, h3⟩ := H.out
        refine ⟨p1.1.trans hz, permIn_trans _ _ _ _ _ hp (permIn_mono dk d1 a n 0 n (by omega) (by omega) (by omega) p1), fun i j hij hj hd => ?_, tg_perm h3 (by omega) (Nat.le_refl _) p1 (fun i j p q r t => by omega)⟩
        by_cases hja : j < a
        · rw [p1.2.1 i (by omega), p1.2.1 j (by omega)]; exact h2 i j hij hja hd
        · exact s1 i j (by omega) hij hj
      have S4 : Aside (S2 w blk off d1 w2) := S3
      clear p1 s1 S3 c S1 H
      go_wp2_with fail
      go_loopg [6, 7, 8, 9] n (fun kx s6 s7 s8 s9 wr => ∃ (s : Nat) (dk : Array (Gv × Nat)), s6 = .int .i64 s ∧ 20 ≤ s ∧ s ≤ 40000 ∧ n - s ≤ kx ∧ Hid (dk.size = n ∧ PermIn 0 n d dk ∧ Bk s n dk ∧ Tg s n dk) ∧ Aside (S2 w blk off dk wr))
      case atStart => exact ⟨20, d1, rfl, by omega, by omega, by omega, HB, S4⟩
      case round =>
        clear S4 HB
        obtain ⟨s, dk, rfl, hs20, hs4, hkx, H, S1⟩ := hrel
        by_cases hlt : s < n
        · have hltz : (s : Int) < n := by omega
          go_wp2_with fail
          go_loopg [7, 8] n (fun kx s7 s8 wr => ∃ (q a : Nat) (dk : Array (Gv × Nat)), s7 = .int .i64 a ∧ s8 = .int .i64 ((a : Int) + 2 * (s : Int)) ∧ a ≤ n ∧ n - a ≤ kx ∧ Hid (a = q * (s * 2) ∧ dk.size = n ∧ PermIn 0 n d dk ∧ Hw s q n dk) ∧ Aside (S2 w blk off dk wr))
          case atStart => exact ⟨0, 0, dk, rfl, by first | rfl | (congr 1; omega), by omega, by omega, ⟨by omega, H.out.1, H.out.2.1, Hw.start H.out.2.2.1 H.out.2.2.2⟩, S1⟩
          case round =>
            clear S1 H dk
            obtain ⟨q, a, dk, rfl, rfl, han, hkx2, H, S1⟩ := hrel
            obtain ⟨haq, hz, hp, hw⟩ := H.out
            by_cases hlt2 : a + 2 * s ≤ n
            · have hlt2z : (a : Int) + 2 * (s : Int) ≤ n := by omega
              have hpre := hw.pre (b := a + 2 * s) (by omega) hlt2 (by omega) (by omega)
              rw [← haq] at hpre
              have c := symMerge_at T swoT blk off cap d w R (by have := HN.out; omega) (2 * s) a (a + s) (a + 2 * s) dk wr (by omega) (by have := HN.out; omega) S1.out (by omega) (by omega) (by omega) hpre.1 hpre.2.1 hpre.2.2
              rw [hz, show ((a + s : Nat) : Int) = (a : Int) + (s : Int) by omega, show ((a + 2 * s : Nat) : Int) = (a : Int) + 2 * (s : Int) by omega] at c
              clear haq hz hp hw hpre
              go_wp2_with fail
              refine Calls.mono c ?_
              rintro _ w3 ⟨rfl, d2, p1, s1, S3⟩
              have HP : Hid (PermIn a (a + 2 * s) dk d2) := p1
              have HS : Hid (SortedIn T a (a + 2 * s) d2) := s1
              have S4 : Aside (S2 w blk off d2 w3) := S3
              clear p1 s1 S3 c S1
              go_wp2
              go_roundg (n - (a + 2 * s))
              case measure => omega
              case rel =>
                obtain ⟨haq, hz, hp, hw⟩ := H.out
                have p1 := HP.out
                have s1 := HS.out
                refine ⟨q + 1, a + 2 * s, d2, by first | rfl | go_num | (congr 1; omega), by first | rfl | go_num | (congr 1; omega), hlt2, Nat.le_refl _, ⟨by rw [Nat.add_mul]; omega, p1.1.trans hz, permIn_trans _ _ _ _ _ hp (permIn_mono dk d2 a (a + 2 * s) 0 n (by omega) (by omega) (by omega) p1), ?_⟩, S4⟩
                rw [haq] at p1 s1 hlt2
                exact hw.next (by omega) (by omega) hlt2 (by omega) (Or.inl (by omega)) p1 s1
            · have hlt2z : ¬ (a : Int) + 2 * (s : Int) ≤ n := by omega
              by_cases hm : a + s < n
              · have hmz : (a : Int) + (s : Int) < n := by omega
                have hpre := hw.pre (b := n) (by omega) (Nat.le_refl _) (by omega) (by omega)
                rw [← haq] at hpre
                have c := symMerge_at T swoT blk off cap d w R (by have := HN.out; omega) n a (a + s) n dk wr (by omega) (by have := HN.out; omega) S1.out (by omega) (by omega) (by omega) hpre.1 hpre.2.1 hpre.2.2
                rw [hz, show ((a + s : Nat) : Int) = (a : Int) + (s : Int) by omega] at c
                clear haq hz hp hw hpre
                go_wp2_with fail
                refine Calls.mono c ?_
                rintro _ w3 ⟨rfl, d2, p1, s1, S3⟩
                have HP : Hid (PermIn a n dk d2) := p1
                have HS : Hid (SortedIn T a n d2) := s1
                have S4 : Aside (S2 w blk off d2 w3) := S3
                clear p1 s1 S3 c S1
                go_wp2
                go_roundg (n - s * 2)
                case measure => omega
                case rel =>
                  obtain ⟨haq, hz, hp, hw⟩ := H.out
                  have p1 := HP.out
                  have s1 := HS.out
                  have hpp := permIn_trans _ _ _ _ _ hp (permIn_mono dk d2 a n 0 n (by omega) (by omega) (by omega) p1)
                  rw [haq] at p1 s1
                  obtain ⟨b1, b2⟩ := (hw.next (b := n) (by omega) (by omega) (Nat.le_refl _) (by omega) (Or.inr rfl) p1 s1).done (by omega) (by rw [Nat.add_mul]; omega)
                  exact ⟨s * 2, d2, by first | rfl | go_num | (congr 1; omega), by omega, by omega, Nat.le_refl _, ⟨p1.1.trans hz, hpp, b1, b2⟩, S4⟩
              · have hmz : ¬ (a : Int) + (s : Int) < n := by omega
                clear haq hz hp hw
                go_wp2
                go_roundg (n - s * 2)
                case measure => omega
                case rel =>
                  obtain ⟨haq, hz, hp, hw⟩ := H.out
                  obtain ⟨b1, b2⟩ := hw.done (by omega) (by omega)
                  exact ⟨s * 2, dk, by first | rfl | go_num | (congr 1; omega), by omega, by omega, Nat.le_refl _, ⟨hz, hp, b1, b2⟩, S1⟩
        · have hltz : ¬ (s : Int) < n := by omega
          go_wp2
          go_end0
          exact ⟨rfl, dk, H.out.2.1, H.out.2.2.1.all (by omega), S1.out⟩
theorem sort_raw (blk off cap : Nat) (d : Array (Gv × Nat)) (w : World) (R : R2 w blk off d) (hsz : d.size ≤ 20000) (ht : ∀ x, x < d.size → d[x]!.2 = x) :
    Calls Tryd.prog 20 #[.slice (some ⟨blk, off, none⟩) d.size cap, fnv] w fun e w' => e = .returned (.tuple #[]) ∧ ∃ d', PermIn 0 d.size d d' ∧ SortedIn T 0 d.size d' ∧ S2 w blk off d' w' := by
  have c := stable_at blk off cap d w R hsz ht
  go_enter Tryd.func20, Tryd.ntmps20
  go_wp2_with fail
  refine Calls.mono c ?_
  rintro _ w2 ⟨rfl, h⟩
  go_wp2
  go_end0
  exact ⟨rfl, h⟩
end Go.Proofs.YtkldnapbeebdkaaDoor.st
