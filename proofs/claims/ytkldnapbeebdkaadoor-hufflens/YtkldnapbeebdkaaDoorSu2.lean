/- A row sorted by 'less' and 'swap': one element beside sorted ones. -/
import Derived.Test.YtkldnapbeebdkaaDoorSu1
namespace Go.Proofs.YtkldnapbeebdkaaDoor.su
set_option linter.unusedVariables false
open Go.Shelf Go.RowKit Go.Lib Go.Sort
open mem st
variable {α : Type} [Inhabited α]
set_option maxHeartbeats 16000000 in
set_option maxRecDepth 1000000 in
/-- One element on the left. -/
theorem sym_left (T : α → α → Bool) (hO : SWO T) {enc : α → Value} {lt : α → α → Bool} {g : Nat} {lb : Array Value} {sf : Nat} {sb : Array Value} {w0 : World} {blk off : Nat} {d0 : Array α} (L : Ls enc lt g lb sf sb w0 blk off d0) (a b : Nat) (d : Array α) (w : World) (hs : d.size = d0.size) (S : SW enc w0 blk off d w) (hmb : a + 1 < b) (hb : b ≤ d.size) (hsz : d.size < 4611686018427387904)
    (hr : SortedIn T (a + 1) b d) (hf : st.Fair lt T a (a + 1) b d) :
    Calls Tryd.prog 65 #[dv g lb sf sb, .int .i64 a, .int .i64 ((a : Int) + 1), .int .i64 b] w fun e w' => e = .returned (.tuple #[]) ∧ ∃ d', PermIn a b d d' ∧ SortedIn T a b d' ∧ St enc w0 blk off d' w w' := by
  have mixed := mixedP
  have eg := L.eg
  have hbw : blk < w.heap.size := S.lt L.hblk
  have SB : Aside (St enc w0 blk off d w (w.alloc (bxo g lb sf sb))) := St.boxed S _
  have S0 : Aside (St enc w0 blk off d (w.alloc (bxo g lb sf sb)) (w.alloc (bxo g lb sf sb))) := ⟨S.alloc _, World.grownBy.refl _ _⟩
  have HR : Hid (SortedIn T (a + 1) b d) := hr
  have HF : Hid (st.Fair lt T a (a + 1) b d) := hf
  have HO : Hid (SWO T) := hO
  clear S hr hf hO
  have h1 : (((a : Int) + 1 - (a : Int)) == 1) = true := by rw [beq_iff_eq]; omega
  go_enter Tryd.func65, Tryd.ntmps65
  go_wp2
  go_loopg [8, 9] (b - a) (fun kx s10 s11 wr => ∃ (i j : Nat), s10 = .int .i64 i ∧ s11 = .int .i64 j ∧ a + 1 ≤ i ∧ i ≤ j ∧ j ≤ b ∧ j - i ≤ kx ∧ Hid ((∀ x, a + 1 ≤ x → x < i → T d[x]! d[a]! = true) ∧ (∀ x, j ≤ x → x < b → T d[x]! d[a]! = false)) ∧ Aside (St enc w0 blk off d (w.alloc (bxo g lb sf sb)) wr))
  case atStart => exact ⟨a + 1, b, by go_num, rfl, Nat.le_refl _, by omega, Nat.le_refl _, by omega, ⟨fun x h1 h2 => by omega, fun x h1 h2 => by omega⟩, S0⟩
  case round =>
    clear S0
    obtain ⟨i, j, rfl, rfl, hi, hij, hjb, hkx, H, S1⟩ := hrel
    obtain ⟨bx0, bx1⟩ := S1.out.box hbw
    by_cases hlt : i < j
    · have hltz : (i : Int) < j := by omega
      go_wp2_with fail
      have HFh : Hid (lt d[(i + j) / 2]! d[a]! = T d[(i + j) / 2]! d[a]!) := HF.out a ((i + j) / 2) (Nat.le_refl _) (by omega) (by omega) (by omega)
      cases hlv : lt d[(i + j) / 2]! d[a]! with
      | true =>
        have HL : Hid (T d[(i + j) / 2]! d[a]! = true) := by rw [← HFh.out]; exact hlv
        refine (L.less S1.out (by omega) ((i + j) / 2) (a) (((i : Int) + (j : Int)) / 2) ((a : Int)) (by omega) (by omega) (by omega) (by omega) true hlv).mono ?_
        rintro _ w2 ⟨rfl, S3⟩
        clear bx0 bx1 S1
        go_wp2
        go_roundg (j - ((i + j) / 2 + 1))
        case measure => omega
        case rel =>
          refine ⟨(i + j) / 2 + 1, j, by first | rfl | (congr 1; done) | (congr 1; omega), rfl, by omega, by omega, hjb, Nat.le_refl _, ⟨fun x h1 h2 => ?_, H.out.2⟩, S3⟩
          by_cases hx : x = (i + j) / 2
          · rw [hx]; exact HL.out
          · cases ht : T d[x]! d[a]! with
            | true => rfl
            | false =>
              have := HO.out.ntrans _ _ _ (HR.out x ((i + j) / 2) h1 (by omega) (by omega)) ht
              rw [HL.out] at this
              cases this
      | false =>
        have HL : Hid (T d[(i + j) / 2]! d[a]! = false) := by rw [← HFh.out]; exact hlv
        refine (L.less S1.out (by omega) ((i + j) / 2) (a) (((i : Int) + (j : Int)) / 2) ((a : Int)) (by omega) (by omega) (by omega) (by omega) false hlv).mono ?_
        rintro _ w2 ⟨rfl, S3⟩
        clear bx0 bx1 S1
        go_wp2
        go_roundg ((i + j) / 2 - i)
        case measure => omega
        case rel =>
          refine ⟨i, (i + j) / 2, rfl, by first | rfl | (congr 1; done) | (congr 1; omega), hi, by omega, by omega, Nat.le_refl _, ⟨H.out.1, fun x h1 h2 => ?_⟩, S3⟩
          by_cases hx : x = (i + j) / 2
          · rw [hx]; exact HL.out
          · exact HO.out.ntrans _ _ _ (HR.out ((i + j) / 2) x (by omega) (by omega) h2) HL.out
    · have hltz : ¬ (i : Int) < j := by omega
      go_wp2_with fail
      go_loopg [11] (b - a) (fun kx s13 wr => ∃ (k : Nat) (dk : Array α), s13 = .int .i64 k ∧ a ≤ k ∧ k ≤ i - 1 ∧ i - 1 - k ≤ kx ∧ Hid (dk.size = d.size ∧ Sl a k d dk ∧ PermIn a b d dk) ∧ Aside (St enc w0 blk off dk (w.alloc (bxo g lb sf sb)) wr))
      case atStart => exact ⟨a, d, rfl, Nat.le_refl _, by omega, by omega, ⟨rfl, Sl.zero a d, permIn_refl _ _ _⟩, S1⟩
      case round =>
        clear S1
        obtain ⟨k, dk, rfl, hak, hki, hkx2, H2, S1⟩ := hrel
        obtain ⟨bx0, bx1⟩ := S1.out.box hbw
        by_cases hlt2 : k < i - 1
        · have hl2z : (k : Int) < (i : Int) - 1 := by omega
          have hds := H2.out.1
          go_wp2_with fail
          obtain ⟨w2, hsw3, S3⟩ := L.swp S1.out (by omega) (k) (k + 1) ((k : Int)) ((k : Int) + 1) (by omega) (by omega) (by omega) (by omega)
          rw [hsw3, Oper.upon_value]
          clear hsw3 bx0 bx1 S1
          go_wp2
          go_roundg (i - 1 - (k + 1))
          case measure => omega
          case rel => exact ⟨k + 1, _, by go_num, by omega, by omega, Nat.le_refl _, ⟨by rw [size_swp]; exact hds, H2.out.2.1.step hak (by omega), Sr.perm (n := 0) H2.out.2.2 hak (by omega) (by omega) (by omega) hb⟩, S3⟩
        · have hl2z : ¬ (k : Int) < (i : Int) - 1 := by omega
          have hk : k = i - 1 := by omega
          have hij' : i = j := by omega
          go_wp2
          (try simp only [Exit.inBlock, Exit.then]); refine bodyPost_ret (results_none rfl _ _ _) rfl ?_
          refine ⟨rfl, dk, H2.out.2.2, merge_left HO.out (i := i) HR.out hi (by omega) H.out.1 (fun x h1 h2 => H.out.2 x (by omega) h2) ?_, SB.out.trans S1.out⟩
          rw [← hk]
          exact H2.out.2.1
set_option maxHeartbeats 16000000 in
set_option maxRecDepth 1000000 in
/-- One element on the right. -/
theorem sym_right (T : α → α → Bool) (hO : SWO T) {enc : α → Value} {lt : α → α → Bool} {g : Nat} {lb : Array Value} {sf : Nat} {sb : Array Value} {w0 : World} {blk off : Nat} {d0 : Array α} (L : Ls enc lt g lb sf sb w0 blk off d0) (a m : Nat) (d : Array α) (w : World) (hs : d.size = d0.size) (S : SW enc w0 blk off d w) (ham : a + 1 < m) (hb : m + 1 ≤ d.size) (hsz : d.size < 4611686018427387904)
    (hr : SortedIn T a m d) (hf : st.Fair lt T a m (m + 1) d) :
    Calls Tryd.prog 65 #[dv g lb sf sb, .int .i64 a, .int .i64 m, .int .i64 ((m : Int) + 1)] w fun e w' => e = .returned (.tuple #[]) ∧ ∃ d', PermIn a (m + 1) d d' ∧ SortedIn T a (m + 1) d' ∧ St enc w0 blk off d' w w' := by
  have mixed := mixedP
  have eg := L.eg
  have hbw : blk < w.heap.size := S.lt L.hblk
  have SB : Aside (St enc w0 blk off d w (w.alloc (bxo g lb sf sb))) := St.boxed S _
  have S0 : Aside (St enc w0 blk off d (w.alloc (bxo g lb sf sb)) (w.alloc (bxo g lb sf sb))) := ⟨S.alloc _, World.grownBy.refl _ _⟩
  have HR : Hid (SortedIn T a m d) := hr
  have HF : Hid (st.Fair lt T a m (m + 1) d) := hf
  have HO : Hid (SWO T) := hO
  clear S hr hf hO
  have h1 : (((m : Int) - (a : Int)) == 1) = false := by rw [beq_eq_false_iff_ne]; omega
  have h2 : (((m : Int) + 1 - (m : Int)) == 1) = true := by rw [beq_iff_eq]; omega
  go_enter Tryd.func65, Tryd.ntmps65
  go_wp2
  go_loopg [12, 13] (m - a) (fun kx s10 s11 wr => ∃ (i j : Nat), s10 = .int .i64 i ∧ s11 = .int .i64 j ∧ a ≤ i ∧ i ≤ j ∧ j ≤ m ∧ j - i ≤ kx ∧ Hid ((∀ x, a ≤ x → x < i → T d[m]! d[x]! = false) ∧ (∀ x, j ≤ x → x < m → T d[m]! d[x]! = true)) ∧ Aside (St enc w0 blk off d (w.alloc (bxo g lb sf sb)) wr))
  case atStart => exact ⟨a, m, rfl, rfl, Nat.le_refl _, by omega, Nat.le_refl _, by omega, ⟨fun x h1 h2 => by omega, fun x h1 h2 => by omega⟩, S0⟩
  case round =>
    clear S0
    obtain ⟨i, j, rfl, rfl, hi, hij, hjb, hkx, H, S1⟩ := hrel
    obtain ⟨bx0, bx1⟩ := S1.out.box hbw
    by_cases hlt : i < j
    · have hltz : (i : Int) < j := by omega
      go_wp2_with fail
      have HFh : Hid (lt d[m]! d[(i + j) / 2]! = T d[m]! d[(i + j) / 2]!) := HF.out ((i + j) / 2) m (by omega) (by omega) (Nat.le_refl _) (by omega)
      cases hlv : lt d[m]! d[(i + j) / 2]! with
      | false =>
        have HL : Hid (T d[m]! d[(i + j) / 2]! = false) := by rw [← HFh.out]; exact hlv
        refine (L.less S1.out (by omega) (m) ((i + j) / 2) ((m : Int)) (((i : Int) + (j : Int)) / 2) (by omega) (by omega) (by omega) (by omega) false hlv).mono ?_
        rintro _ w2 ⟨rfl, S3⟩
        clear bx0 bx1 S1
        go_wp2
        go_roundg (j - ((i + j) / 2 + 1))
        case measure => omega
        case rel =>
          refine ⟨(i + j) / 2 + 1, j, by first | rfl | (congr 1; done) | (congr 1; omega), rfl, by omega, by omega, hjb, Nat.le_refl _, ⟨fun x h1 h2 => ?_, H.out.2⟩, S3⟩
          by_cases hx : x = (i + j) / 2
          · rw [hx]; exact HL.out
          · exact HO.out.ntrans _ _ _ HL.out (HR.out x ((i + j) / 2) h1 (by omega) (by omega))
      | true =>
        have HL : Hid (T d[m]! d[(i + j) / 2]! = true) := by rw [← HFh.out]; exact hlv
        refine (L.less S1.out (by omega) (m) ((i + j) / 2) ((m : Int)) (((i : Int) + (j : Int)) / 2) (by omega) (by omega) (by omega) (by omega) true hlv).mono ?_
        rintro _ w2 ⟨rfl, S3⟩
        clear bx0 bx1 S1
        go_wp2
        go_roundg ((i + j) / 2 - i)
        case measure => omega
        case rel =>
          refine ⟨i, (i + j) / 2, rfl, by first | rfl | (congr 1; done) | (congr 1; omega), hi, by omega, by omega, Nat.le_refl _, ⟨H.out.1, fun x h1 h2 => ?_⟩, S3⟩
          by_cases hx : x = (i + j) / 2
          · rw [hx]; exact HL.out
          · cases ht : T d[m]! d[x]! with
            | true => rfl
            | false =>
              have := HO.out.ntrans _ _ _ ht (HR.out ((i + j) / 2) x (by omega) (by omega) h2)
              rw [HL.out] at this
              cases this
    · have hltz : ¬ (i : Int) < j := by omega
      go_wp2_with fail
      go_loopg [15] (m - a) (fun kx s13 wr => ∃ (k : Nat) (dk : Array α), s13 = .int .i64 k ∧ i ≤ k ∧ k ≤ m ∧ k - i ≤ kx ∧ Hid (dk.size = d.size ∧ Sg k m d dk ∧ PermIn a (m + 1) d dk) ∧ Aside (St enc w0 blk off dk (w.alloc (bxo g lb sf sb)) wr))
      case atStart => exact ⟨m, d, rfl, by omega, Nat.le_refl _, by omega, ⟨rfl, Sg.zero m d, permIn_refl _ _ _⟩, S1⟩
      case round =>
        clear S1
        obtain ⟨k, dk, rfl, hik, hkm, hkx2, H2, S1⟩ := hrel
        obtain ⟨bx0, bx1⟩ := S1.out.box hbw
        by_cases hlt2 : i < k
        · obtain ⟨k1, rfl⟩ : ∃ k1, k = k1 + 1 := ⟨k - 1, by omega⟩
          have hl2z : (i : Int) < (k1 : Int) + 1 := by omega
          have hds := H2.out.1
          go_wp2_with fail
          obtain ⟨w2, hsw3, S3⟩ := L.swp S1.out (by omega) (k1 + 1) (k1) ((k1 : Int) + 1) ((k1 : Int)) (by omega) (by omega) (by omega) (by omega)
          rw [hsw3, Oper.upon_value]
          clear hsw3 bx0 bx1 S1
          go_wp2
          go_roundg (k1 - i)
          case measure => omega
          case rel => exact ⟨k1, _, by first | rfl | go_num | (congr 1; omega), by omega, by omega, Nat.le_refl _, ⟨by rw [size_swp]; exact hds, H2.out.2.1.step hkm (by omega), Sr.perm (n := 0) H2.out.2.2 (by omega) (by omega) (by omega) (by omega) hb⟩, S3⟩
        · have hl2z : ¬ (i : Int) < (k : Int) := by omega
          have hk : k = i := by omega
          have hij' : i = j := by omega
          go_wp2
          (try simp only [Exit.inBlock, Exit.then]); refine bodyPost_ret (results_none rfl _ _ _) rfl ?_
          refine ⟨rfl, dk, H2.out.2.2, merge_right HO.out (i := i) HR.out hi (by omega) H.out.1 (fun x h1 h2 => H.out.2 x (by omega) h2) ?_, SB.out.trans S1.out⟩
          rw [← hk]
          exact H2.out.2.1
end Go.Proofs.YtkldnapbeebdkaaDoor.su
