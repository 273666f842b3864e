/- A row sorted by 'less' and 'swap': the whole sort. -/
import Derived.Test.YtkldnapbeebdkaaDoorSu5
namespace Go.Proofs.YtkldnapbeebdkaaDoor.su
set_option linter.unusedVariables false
open Go.Shelf Go.RowKit Go.Lib Go.Sort
open mem st
variable {E : Type} [Key E]
theorem grown_sort {α : Type} [Inhabited α] {enc : α → Value} {w : World} {blk off n : Nat} {os : Array Obj} (d : Array α) : w.grownBy (sortWorld enc w blk off n d os) (some blk) := by
  unfold sortWorld
  refine ⟨rfl, rfl, rfl, by simp [Sort.ahead], fun k hk hne => ?_⟩
  rw [heap_grow_old _ _ (by rw [size_putRow]; exact hk)]
  have : blk ≠ k := fun e => hne (by rw [e])
  simp [putRow, mapBlock, Sort.ahead, Array.getElem?_modify, this]
set_option maxRecDepth 100000 in
/-- Sorted by inserting, between two places. -/
theorem insertion_at {enc : E × Nat → Value} {g : Nat} {lb : Array Value} {sf : Nat} {sb : Array Value} {w0 : World} {blk off : Nat} {d0 : Array (E × Nat)} (L : Ls enc ltK g lb sf sb w0 blk off d0) (a b : Nat) (d : Array (E × Nat)) (w : World) (hs : d.size = d0.size) (S : SW enc w0 blk off d w) (hab : a ≤ b) (hb : b ≤ d.size) (hsz : d.size < 4611686018427387904) (ht : ∀ x, a ≤ x → x < b → d[x]!.2 = x) :
    Calls Tryd.prog 64 #[dv g lb sf sb, .int .i64 a, .int .i64 b] w fun e w' => e = .returned (.tuple #[]) ∧ ∃ d', PermIn a b d d' ∧ SortedIn T a b d' ∧ St enc w0 blk off d' w w' := by
  have LI := LaysGt.n29.elder ({ layT.laid with } : LaysGt.n29 Tryd.prog layT.ren)
  have hc := Any.insertionSort_func_w LI enc ltK g lb sf sb blk off a b d w L.eg (by rw [hs]; exact S.lessReads L.hless L.hblk hs) (by rw [hs]; exact L.hswap) (S.holds L.hblk L.hH hs) (S.lt L.hblk) hab hb hsz
  refine hc.mono ?_
  rintro e w' ⟨rfl, n, os, rfl⟩
  obtain ⟨h1, h2⟩ := insertion_T hab hb ht
  exact ⟨rfl, _, h1, h2, S.on L.hblk n _ os h1.1, grown_sort _⟩
set_option maxHeartbeats 16000000 in
set_option maxRecDepth 1000000 in
theorem stable_at {enc : E × Nat → Value} {g : Nat} {lb : Array Value} {sf : Nat} {sb : Array Value} {w : World} {blk off : Nat} {d : Array (E × Nat)} (L : Ls enc ltK g lb sf sb w blk off d) (hsz : d.size ≤ 20000) (ht : ∀ x, x < d.size → d[x]!.2 = x) :
    Calls Tryd.prog 41 #[dv g lb sf sb, .int .i64 d.size] w fun e w' => e = .returned (.tuple #[]) ∧ ∃ d', PermIn 0 d.size d d' ∧ SortedIn T 0 d.size d' ∧ St enc w blk off d' w w' := by
  have hbw : blk < w.heap.size := L.hblk
  have mixed := mixedP
  have SB : Aside (St enc w blk off d w (w.alloc (bxo g lb sf sb))) := St.boxed (SW.start L.hH) _
  have S0 : Aside (St enc w blk off d (w.alloc (bxo g lb sf sb)) (w.alloc (bxo g lb sf sb))) := ⟨(SW.start L.hH).alloc _, World.grownBy.refl _ _⟩
  have HT : Hid (∀ x, x < d.size → d[x]!.2 = x) := ht
  obtain ⟨n, hn⟩ : ∃ n, n = d.size := ⟨_, rfl⟩
  rw [← hn] at hsz ⊢
  have HN : Hid (n = d.size) := hn
  clear ht hn
  go_enter Tryd.func41, Tryd.ntmps41
  go_wp2
  go_loopg [5, 6] n (fun kx s7 s8 wr => ∃ (q a : Nat) (dk : Array (E × Nat)), s7 = .int .i64 a ∧ s8 = .int .i64 ((a : Int) + 20) ∧ a ≤ n ∧ n - a ≤ kx ∧ Hid (a = q * 20 ∧ dk.size = n ∧ PermIn 0 n d dk ∧ (∀ x, a ≤ x → x < n → dk[x]!.2 = x) ∧ (∀ i j, i < j → j < a → i / 20 = j / 20 → T dk[j]! dk[i]! = false) ∧ Tg 20 n dk) ∧ Aside (St enc w blk off dk (w.alloc (bxo g lb sf sb)) wr))
  case atStart => exact ⟨0, 0, d, rfl, rfl, by omega, by omega, ⟨by omega, HN.out.symm, permIn_refl _ _ _, fun x _ h => HT.out x (by rw [← HN.out]; exact h), fun i j _ h => by omega, fun i hi => by rw [HT.out i (by rw [← HN.out]; exact hi)]⟩, S0⟩
  case round =>
    clear S0
    obtain ⟨q, a, dk, rfl, rfl, han, hkx, H, S1⟩ := hrel
    obtain ⟨bx0, bx1⟩ := S1.out.box hbw
    obtain ⟨haq, hz, hp, h1, h2, h3⟩ := H.out
    by_cases hlt : a + 20 ≤ n
    · have hltz : (a : Int) + 20 ≤ n := by omega
      have c := insertion_at L a (a + 20) dk wr (by have := HN.out; omega) S1.out.1 (by omega) (by omega) (by omega) (fun x p q => h1 x p (by omega))
      rw [show ((a + 20 : Nat) : Int) = (a : Int) + 20 by omega] at c
      clear haq hz hp h1 h2 h3
      go_wp2_with fail
      refine Calls.mono c ?_
      rintro _ w2 ⟨rfl, d1, p1, s1, S3⟩
      have HP : Hid (PermIn a (a + 20) dk d1) := p1
      have HS : Hid (SortedIn T a (a + 20) d1) := s1
      have S4 : Aside (St enc w blk off d1 (w.alloc (bxo g lb sf sb)) w2) := S1.out.trans S3
      clear bx0 bx1
      obtain ⟨bx0, bx1⟩ := S4.out.box hbw
      clear p1 s1 S3 c S1
      go_wp2
      go_roundg (n - (a + 20))
      case measure => omega
      case rel =>
        obtain ⟨haq, hz, hp, h1, h2, h3⟩ := H.out
        refine ⟨q + 1, a + 20, d1, by first | rfl | go_num | (congr 1; omega), by first | rfl | go_num | (congr 1; omega), hlt, Nat.le_refl _, ⟨by omega, HP.out.1.trans hz, permIn_trans _ _ _ _ _ hp (permIn_mono dk d1 a (a + 20) 0 n (by omega) (by omega) (by omega) HP.out), fun x p q => by rw [HP.out.2.1 x (by omega)]; exact h1 x (by omega) q, fun i j hij hj hd => ?_, tg_perm h3 (by omega) hlt HP.out (fun i j p q r t => by omega)⟩, S4⟩
        by_cases hja : j < a
        · rw [HP.out.2.1 i (by omega), HP.out.2.1 j (by omega)]; exact h2 i j hij hja hd
        · exact HS.out i j (by omega) hij hj
    · have hltz : ¬ (a : Int) + 20 ≤ n := by omega
      have c := insertion_at L a n dk wr (by have := HN.out; omega) S1.out.1 (by omega) (by omega) (by omega) (fun x p q => h1 x p (by omega))
      clear haq hz hp h1 h2 h3
      go_wp2_with fail
      refine Calls.mono c ?_
      rintro _ w2 ⟨rfl, d1, p1, s1, S3⟩
      have HB : Hid (d1.size = n ∧ PermIn 0 n d d1 ∧ Bk 20 n d1 ∧ Tg 20 n d1) := by
        obtain ⟨haq, hz, hp, h1, h2, h3⟩ := H.out
        refine ⟨p1.1.trans hz, permIn_trans _ _ _ _ _ hp (permIn_mono dk d1 a n 0 n (by omega) (by omega) (by omega) p1), fun i j hij hj hd => ?_, tg_perm h3 (by omega) (Nat.le_refl _) p1 (fun i j p q r t => by omega)⟩
        by_cases hja : j < a
        · rw [p1.2.1 i (by omega), p1.2.1 j (by omega)]; exact h2 i j hij hja hd
        · exact s1 i j (by omega) hij hj
      have S4 : Aside (St enc w blk off d1 (w.alloc (bxo g lb sf sb)) w2) := S1.out.trans S3
      clear bx0 bx1
      obtain ⟨bx0, bx1⟩ := S4.out.box hbw
      clear p1 s1 S3 c S1 H
      go_wp2_with fail
      go_loopg [4, 5, 6, 7] n (fun kx s6 s7 s8 s9 wr => ∃ (s : Nat) (dk : Array (E × Nat)), s6 = .int .i64 s ∧ 20 ≤ s ∧ s ≤ 40000 ∧ n - s ≤ kx ∧ Hid (dk.size = n ∧ PermIn 0 n d dk ∧ Bk s n dk ∧ Tg s n dk) ∧ Aside (St enc w blk off dk (w.alloc (bxo g lb sf sb)) wr))
      case atStart => exact ⟨20, d1, rfl, by omega, by omega, by omega, HB, S4⟩
      case round =>
        clear S4 HB
        obtain ⟨s, dk, rfl, hs20, hs4, hkx, H, S1⟩ := hrel
        obtain ⟨bx0, bx1⟩ := S1.out.box hbw
        by_cases hlt : s < n
        · have hltz : (s : Int) < n := by omega
          go_wp2_with fail
          go_loopg [5, 6] n (fun kx s7 s8 wr => ∃ (q a : Nat) (dk : Array (E × Nat)), s7 = .int .i64 a ∧ s8 = .int .i64 ((a : Int) + 2 * (s : Int)) ∧ a ≤ n ∧ n - a ≤ kx ∧ Hid (a = q * (s * 2) ∧ dk.size = n ∧ PermIn 0 n d dk ∧ Hw s q n dk) ∧ Aside (St enc w blk off dk (w.alloc (bxo g lb sf sb)) wr))
          case atStart => exact ⟨0, 0, dk, rfl, by first | rfl | (congr 1; omega), by omega, by omega, ⟨by omega, H.out.1, H.out.2.1, Hw.start H.out.2.2.1 H.out.2.2.2⟩, S1⟩
          case round =>
            clear S1 H dk
            obtain ⟨q, a, dk, rfl, rfl, han, hkx2, H, S1⟩ := hrel
            obtain ⟨bx0, bx1⟩ := S1.out.box hbw
            obtain ⟨haq, hz, hp, hw⟩ := H.out
            by_cases hlt2 : a + 2 * s ≤ n
            · have hlt2z : (a : Int) + 2 * (s : Int) ≤ n := by omega
              have hpre := hw.pre (b := a + 2 * s) (by omega) hlt2 (by omega) (by omega)
              rw [← haq] at hpre
              have c := symMerge_at T swoT L (by have := HN.out; omega) (2 * s) a (a + s) (a + 2 * s) dk wr (by omega) (by have := HN.out; omega) S1.out.1 (by omega) (by omega) (by omega) hpre.1 hpre.2.1 hpre.2.2
              rw [show ((a + s : Nat) : Int) = (a : Int) + (s : Int) by omega, show ((a + 2 * s : Nat) : Int) = (a : Int) + 2 * (s : Int) by omega] at c
              clear haq hz hp hw hpre
              go_wp2_with fail
              refine Calls.mono c ?_
              rintro _ w3 ⟨rfl, d2, p1, s1, S3⟩
              have HP : Hid (PermIn a (a + 2 * s) dk d2) := p1
              have HS : Hid (SortedIn T a (a + 2 * s) d2) := s1
              have S4 : Aside (St enc w blk off d2 (w.alloc (bxo g lb sf sb)) w3) := S1.out.trans S3
              clear bx0 bx1
              obtain ⟨bx0, bx1⟩ := S4.out.box hbw
              clear p1 s1 S3 c S1
              go_wp2
              go_roundg (n - (a + 2 * s))
              case measure => omega
              case rel =>
                obtain ⟨haq, hz, hp, hw⟩ := H.out
                have p1 := HP.out
                have s1 := HS.out
                refine ⟨q + 1, a + 2 * s, d2, by first | rfl | go_num | (congr 1; omega), by first | rfl | go_num | (congr 1; omega), hlt2, Nat.le_refl _, ⟨by rw [Nat.add_mul]; omega, p1.1.trans hz, permIn_trans _ _ _ _ _ hp (permIn_mono dk d2 a (a + 2 * s) 0 n (by omega) (by omega) (by omega) p1), ?_⟩, S4⟩
                rw [haq] at p1 s1 hlt2
                exact hw.next (by omega) (by omega) hlt2 (by omega) (Or.inl (by omega)) p1 s1
            · have hlt2z : ¬ (a : Int) + 2 * (s : Int) ≤ n := by omega
              by_cases hm : a + s < n
              · have hmz : (a : Int) + (s : Int) < n := by omega
                have hpre := hw.pre (b := n) (by omega) (Nat.le_refl _) (by omega) (by omega)
                rw [← haq] at hpre
                have c := symMerge_at T swoT L (by have := HN.out; omega) n a (a + s) n dk wr (by omega) (by have := HN.out; omega) S1.out.1 (by omega) (by omega) (by omega) hpre.1 hpre.2.1 hpre.2.2
                rw [show ((a + s : Nat) : Int) = (a : Int) + (s : Int) by omega] at c
                clear haq hz hp hw hpre
                go_wp2_with fail
                refine Calls.mono c ?_
                rintro _ w3 ⟨rfl, d2, p1, s1, S3⟩
                have HP : Hid (PermIn a n dk d2) := p1
                have HS : Hid (SortedIn T a n d2) := s1
                have S4 : Aside (St enc w blk off d2 (w.alloc (bxo g lb sf sb)) w3) := S1.out.trans S3
                clear bx0 bx1
                obtain ⟨bx0, bx1⟩ := S4.out.box hbw
                clear p1 s1 S3 c S1
                go_wp2
                go_roundg (n - s * 2)
                case measure => omega
                case rel =>
                  obtain ⟨haq, hz, hp, hw⟩ := H.out
                  have p1 := HP.out
                  have s1 := HS.out
                  have hpp := permIn_trans _ _ _ _ _ hp (permIn_mono dk d2 a n 0 n (by omega) (by omega) (by omega) p1)
                  rw [haq] at p1 s1
                  obtain ⟨b1, b2⟩ := (hw.next (b := n) (by omega) (by omega) (Nat.le_refl _) (by omega) (Or.inr rfl) p1 s1).done (by omega) (by rw [Nat.add_mul]; omega)
                  exact ⟨s * 2, d2, by first | rfl | go_num | (congr 1; omega), by omega, by omega, Nat.le_refl _, ⟨p1.1.trans hz, hpp, b1, b2⟩, S4⟩
              · have hmz : ¬ (a : Int) + (s : Int) < n := by omega
                clear haq hz hp hw
                go_wp2
                go_roundg (n - s * 2)
                case measure => omega
                case rel =>
                  obtain ⟨haq, hz, hp, hw⟩ := H.out
                  obtain ⟨b1, b2⟩ := hw.done (by omega) (by omega)
                  exact ⟨s * 2, dk, by first | rfl | go_num | (congr 1; omega), by omega, by omega, Nat.le_refl _, ⟨hz, hp, b1, b2⟩, S1⟩
        · have hltz : ¬ (s : Int) < n := by omega
          go_wp2
          go_end0
          exact ⟨rfl, dk, H.out.2.1, H.out.2.2.1.all (by omega), SB.out.trans S1.out⟩
end Go.Proofs.YtkldnapbeebdkaaDoor.su
