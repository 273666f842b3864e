/- Texts laid together: Su2, Su3. -/
import Derived.Test.YtkldnapbeebdkaaDoorZ25
/- A row sorted by 'less' and 'swap': one element beside sorted ones. -/
namespace Go.Proofs.YtkldnapbeebdkaaDoor.su
set_option linter.unusedVariables false
open Go.Shelf Go.RowKit Go.Lib Go.Sort
open mem st
variable {α : Type} [Inhabited α]
set_option maxHeartbeats 16000000 in
set_option maxRecDepth 1000000 in
/-- One element on the left. -/
theorem sym_left (T : α → α → Bool) (hO : SWO T) {enc : α → Value} {lt : α → α → Bool} {g : Nat} {lb : Array Value} {sf : Nat} {sb : Array Value} {w0 : World} {blk off : Nat} {d0 : Array α} (L : Ls enc lt g lb sf sb w0 blk off d0) (a b : Nat) (d : Array α) (w : World) (hs : d.size = d0.size) (S : SW enc w0 blk off d w) (hmb : a + 1 < b) (hb : b ≤ d.size) (hsz : d.size < 4611686018427387904)
    (hr : SortedIn T (a + 1) b d) (hf : st.Fair lt T a (a + 1) b d) :
    Calls Tryd.prog 65 #[dv g lb sf sb, .int .i64 a, .int .i64 ((a : Int) + 1), .int .i64 b] w fun e w' => e = .returned (.tuple #[]) ∧ ∃ d', PermIn a b d d' ∧ SortedIn T a b d' ∧ St enc w0 blk off d' w w' := by
  have mixed := mixedP
  have eg := L.eg
  have hbw : blk < w.heap.size := S.lt L.hblk
  have SB : Aside (St enc w0 blk off d w (w.alloc (bxo g lb sf sb))) := St.boxed S _
  have S0 : Aside (St enc w0 blk off d (w.alloc (bxo g lb sf sb)) (w.alloc (bxo g lb sf sb))) := ⟨S.alloc _, World.grownBy.refl _ _⟩
  have HR : Hid (SortedIn T (a + 1) b d) := hr
  have HF : Hid (st.Fair lt T a (a + 1) b d) := hf
  have HO : Hid (SWO T) := hO
  clear S hr hf hO
  have h1 : (((a : Int) + 1 - (a : Int)) == 1) = true := by rw [beq_iff_eq]; omega
  go_enter Tryd.func65, Tryd.ntmps65
  go_wp2
  go_loopg [8, 9] (b - a) (fun kx s10 s11 wr => ∃ (i j : Nat), s10 = .int .i64 i ∧ s11 = .int .i64 j ∧ a + 1 ≤ i ∧ i ≤ j ∧ j ≤ b ∧ j - i ≤ kx ∧ Hid ((∀ x, a + 1 ≤ x → x < i → T d[x]! d[a]! = true) ∧ (∀ x, j ≤ x → x < b → T d[x]! d[a]! = false)) ∧ Aside (St enc w0 blk off d (w.alloc (bxo g lb sf sb)) wr))
  case atStart => exact ⟨a + 1, b, by go_num, rfl, Nat.le_refl _, by omega, Nat.le_refl _, by omega, ⟨fun x h1 h2 => by omega, fun x h1 h2 => by omega⟩, S0⟩
  case round =>
    clear S0
    obtain ⟨i, j, rfl, rfl, hi, hij, hjb, hkx, H, S1⟩ := hrel
    obtain ⟨bx0, bx1⟩ := S1.out.box hbw
    by_cases hlt : i < j
    · have hltz : (i : Int) < j := by omega
      go_wp2_with fail
      have HFh : Hid (lt d[(i + j) / 2]! d[a]! = T d[(i + j) / 2]! d[a]!) := HF.out a ((i + j) / 2) (Nat.le_refl _) (by omega) (by omega) (by omega)
      cases hlv : lt d[(i + j) / 2]! d[a]! with
      | true =>
        have HL : Hid (T d[(i + j) / 2]! d[a]! = true) := by rw [← HFh.out]; exact hlv
        refine (L.less S1.out (by omega) ((i + j) / 2) (a) (((i : Int) + (j : Int)) / 2) ((a : Int)) (by omega) (by omega) (by omega) (by omega) true hlv).mono ?_
        rintro _ w2 ⟨rfl, S3⟩
        clear bx0 bx1 S1
        go_wp2
        go_roundg (j - ((i + j) / 2 + 1))
        case measure => omega
        case rel =>
          refine ⟨(i + j) / 2 + 1, j, by first | rfl | (congr 1; done) | (congr 1; omega), rfl, by omega, by omega, hjb, Nat.le_refl _, ⟨fun x h1 h2 => ?_, H.out.2⟩, S3⟩
          by_cases hx : x = (i + j) / 2
          · rw [hx]; exact HL.out
          · cases ht : T d[x]! d[a]! with
            | true => rfl
            | false =>
              have := HO.out.ntrans _ _ _ (HR.out x ((i + j) / 2) h1 (by omega) (by omega)) ht
              rw [HL.out] at this
              cases this
      | false =>
        have HL : Hid (T d[(i + j) / 2]! d[a]! = false) := by rw [← HFh.out]; exact hlv
        refine (L.less S1.out (by omega) ((i + j) / 2) (a) (((i : Int) + (j : Int)) / 2) ((a : Int)) (by omega) (by omega) (by omega) (by omega) false hlv).mono ?_
        rintro _ w2 ⟨rfl, S3⟩
        clear bx0 bx1 S1
        go_wp2
        go_roundg ((i + j) / 2 - i)
        case measure => omega
        case rel =>
          refine ⟨i, (i + j) / 2, rfl, by first | rfl | (congr 1; done) | (congr 1; omega), hi, by omega, by omega, Nat.le_refl _, ⟨H.out.1, fun x h1 h2 => ?_⟩, S3⟩
          by_cases hx : x = (i + j) / 2
          · rw [hx]; exact HL.out
          · exact HO.out.ntrans _ _ _ (HR.out ((i + j) / 2) x (by omega) (by omega) h2) HL.out
    · have hltz : ¬ (i : Int) < j := by omega
      go_wp2_with fail
      go_loopg [11] (b - a) (fun kx s13 wr => ∃ (k : Nat) (dk : Array α), s13 = .int .i64 k ∧ a ≤ k ∧ k ≤ i - 1 ∧ i - 1 - k ≤ kx ∧ Hid (dk.size = d.size ∧ Sl a k d dk ∧ PermIn a b d dk) ∧ Aside (St enc w0 blk off dk (w.alloc (bxo g lb sf sb)) wr))
      case atStart => exact ⟨a, d, rfl, Nat.le_refl _, by omega, by omega, ⟨rfl, Sl.zero a d, permIn_refl _ _ _⟩, S1⟩
      case round =>
        clear S1
        obtain ⟨k, dk, rfl, hak, hki, hkx2, H2, S1⟩ := hrel
        obtain ⟨bx0, bx1⟩ := S1.out.box hbw
        by_cases hlt2 : k < i - 1
        · have hl2z : (k : Int) < (i : Int) - 1 := by omega
          have hds := H2.out.1
          go_wp2_with fail
          obtain ⟨w2, hsw3, S3⟩ := L.swp S1.out (by omega) (k) (k + 1) ((k : Int)) ((k : Int) + 1) (by omega) (by omega) (by omega) (by omega)
          rw [hsw3, Oper.upon_value]
          clear hsw3 bx0 bx1 S1
          go_wp2
          go_roundg (i - 1 - (k + 1))
          case measure => omega
          case rel => exact ⟨k + 1, _, by go_num, by omega, by omega, Nat.le_refl _, ⟨by rw [size_swp]; exact hds, H2.out.2.1.step hak (by omega), Sr.perm (n := 0) H2.out.2.2 hak (by omega) (by omega) (by omega) hb⟩, S3⟩
        · have hl2z : ¬ (k : Int) < (i : Int) - 1 := by omega
          have hk : k = i - 1 := by omega
          have hij' : i = j := by omega
          go_wp2
          (try simp only [Exit.inBlock, Exit.then]); refine bodyPost_ret (results_none rfl _ _ _) rfl ?_
          refine ⟨rfl, dk, H2.out.2.2, merge_left HO.out (i := i) HR.out hi (by omega) H.out.1 (fun x h1 h2 => H.out.2 x (by omega) h2) ?_, SB.out.trans S1.out⟩
          rw [← hk]
          exact H2.out.2.1
set_option maxHeartbeats 16000000 in
set_option maxRecDepth 1000000 in
/-- One element on the right. -/
theorem sym_right (T : α → α → Bool) (hO : SWO T) {enc : α → Value} {lt : α → α → Bool} {g : Nat} {lb : Array Value} {sf : Nat} {sb : Array Value} {w0 : World} {blk off : Nat} {d0 : Array α} (L : Ls enc lt g lb sf sb w0 blk off d0) (a m : Nat) (d : Array α) (w : World) (hs : d.size = d0.size) (S : SW enc w0 blk off d w) (ham : a + 1 < m) (hb : m + 1 ≤ d.size) (hsz : d.size < 4611686018427387904)
    (hr : SortedIn T a m d) (hf : st.Fair lt T a m (m + 1) d) :
    Calls Tryd.prog 65 #[dv g lb sf sb, .int .i64 a, .int .i64 m, .int .i64 ((m : Int) + 1)] w fun e w' => e = .returned (.tuple #[]) ∧ ∃ d', PermIn a (m + 1) d d' ∧ SortedIn T a (m + 1) d' ∧ St enc w0 blk off d' w w' := by
  have mixed := mixedP
  have eg := L.eg
  have hbw : blk < w.heap.size := S.lt L.hblk
  have SB : Aside (St enc w0 blk off d w (w.alloc (bxo g lb sf sb))) := St.boxed S _
  have S0 : Aside (St enc w0 blk off d (w.alloc (bxo g lb sf sb)) (w.alloc (bxo g lb sf sb))) := ⟨S.alloc _, World.grownBy.refl _ _⟩
  have HR : Hid (SortedIn T a m d) := hr
  have HF : Hid (st.Fair lt T a m (m + 1) d) := hf
  have HO : Hid (SWO T) := hO
  clear S hr hf hO
  have h1 : (((m : Int) - (a : Int)) == 1) = false := by rw [beq_eq_false_iff_ne]; omega
  have h2 : (((m : Int) + 1 - (m : Int)) == 1) = true := by rw [beq_iff_eq]; omega
  go_enter Tryd.func65, Tryd.ntmps65
  go_wp2
  go_loopg [12, 13] (m - a) (fun kx s10 s11 wr => ∃ (i j : Nat), s10 = .int .i64 i ∧ s11 = .int .i64 j ∧ a ≤ i ∧ i ≤ j ∧ j ≤ m ∧ j - i ≤ kx ∧ Hid ((∀ x, a ≤ x → x < i → T d[m]! d[x]! = false) ∧ (∀ x, j ≤ x → x < m → T d[m]! d[x]! = true)) ∧ Aside (St enc w0 blk off d (w.alloc (bxo g lb sf sb)) wr))
  case atStart => exact ⟨a, m, rfl, rfl, Nat.le_refl _, by omega, Nat.le_refl _, by omega, ⟨fun x h1 h2 => by omega, fun x h1 h2 => by omega⟩, S0⟩
  case round =>
    clear S0
    obtain ⟨i, j, rfl, rfl, hi, hij, hjb, hkx, H, S1⟩ := hrel
    obtain ⟨bx0, bx1⟩ := S1.out.box hbw
    by_cases hlt : i < j
    · have hltz : (i : Int) < j := by omega
      go_wp2_with fail
      have HFh : Hid (lt d[m]! d[(i + j) / 2]! = T d[m]! d[(i + j) / 2]!) := HF.out ((i + j) / 2) m (by omega) (by omega) (Nat.le_refl _) (by omega)
      cases hlv : lt d[m]! d[(i + j) / 2]! with
      | false =>
        have HL : Hid (T d[m]! d[(i + j) / 2]! = false) := by rw [← HFh.out]; exact hlv
        refine (L.less S1.out (by omega) (m) ((i + j) / 2) ((m : Int)) (((i : Int) + (j : Int)) / 2) (by omega) (by omega) (by omega) (by omega) false hlv).mono ?_
        rintro _ w2 ⟨rfl, S3⟩
        clear bx0 bx1 S1
        go_wp2
        go_roundg (j - ((i + j) / 2 + 1))
        case measure => omega
        case rel =>
          refine ⟨(i + j) / 2 + 1, j, by first | rfl | (congr 1; done) | (congr 1; omega), rfl, by omega, by omega, hjb, Nat.le_refl _, ⟨fun x h1 h2 => ?_, H.out.2⟩, S3⟩
          by_cases hx : x = (i + j) / 2
          · rw [hx]; exact HL.out
          · exact HO.out.ntrans _ _ _ HL.out (HR.out x ((i + j) / 2) h1 (by omega) (by omega))
      | true =>
        have HL : Hid (T d[m]! d[(i + j) / 2]! = true) := by rw [← HFh.out]; exact hlv
        refine (L.less S1.out (by omega) (m) ((i + j) / 2) ((m : Int)) (((i : Int) + (j : Int)) / 2) (by omega) (by omega) (by omega) (by omega) true hlv).mono ?_
        rintro _ w2 ⟨rfl, S3⟩
        clear bx0 bx1 S1
        go_wp2
        go_roundg ((i + j) / 2 - i)
        case measure => omega
        case rel =>
          refine ⟨i, (i + j) / 2, rfl, by first | rfl | (congr 1; done) | (congr 1; omega), hi, by omega, by omega, Nat.le_refl _, ⟨H.out.1, fun x h1 h2 => ?_⟩, S3⟩
          by_cases hx : x = (i + j) / 2
          · rw [hx]; exact HL.out
          · cases ht : T d[m]! d[x]! with
            | true => rfl
            | false =>
              have := HO.out.ntrans _ _ _ ht (HR.out ((i + j) / 2) x (by omega) (by omega) h2)
              rw [HL.out] at this
              cases this
    · have hltz : ¬ (i : Int) < j := by omega
      go_wp2_with fail
      go_loopg [15] (m - a) (fun kx s13 wr => ∃ (k : Nat) (dk : Array α), s13 = .int .i64 k ∧ i ≤ k ∧ k ≤ m ∧ k - i ≤ kx ∧ Hid (dk.size = d.size ∧ Sg k m d dk ∧ PermIn a (m + 1) d dk) ∧ Aside (St enc w0 blk off dk (w.alloc (bxo g lb sf sb)) wr))
      case atStart => exact ⟨m, d, rfl, by omega, Nat.le_refl _, by omega, ⟨rfl, Sg.zero m d, permIn_refl _ _ _⟩, S1⟩
      case round =>
        clear S1
        obtain ⟨k, dk, rfl, hik, hkm, hkx2, H2, S1⟩ := hrel
        obtain ⟨bx0, bx1⟩ := S1.out.box hbw
        by_cases hlt2 : i < k
        · obtain ⟨k1, rfl⟩ : ∃ k1, k = k1 + 1 := ⟨k - 1, by omega⟩
          have hl2z : (i : Int) < (k1 : Int) + 1 := by omega
          have hds := H2.out.1
          go_wp2_with fail
          obtain ⟨w2, hsw3, S3⟩ := L.swp S1.out (by omega) (k1 + 1) (k1) ((k1 : Int) + 1) ((k1 : Int)) (by omega) (by omega) (by omega) (by omega)
          rw [hsw3, Oper.upon_value]
          clear hsw3 bx0 bx1 S1
          go_wp2
          go_roundg (k1 - i)
          case measure => omega
          case rel => exact ⟨k1, _, by first | rfl | go_num | (congr 1; omega), by omega, by omega, Nat.le_refl _, ⟨by rw [size_swp]; exact hds, H2.out.2.1.step hkm (by omega), Sr.perm (n := 0) H2.out.2.2 (by omega) (by omega) (by omega) (by omega) hb⟩, S3⟩
        · have hl2z : ¬ (i : Int) < (k : Int) := by omega
          have hk : k = i := by omega
          have hij' : i = j := by omega
          go_wp2
          (try simp only [Exit.inBlock, Exit.then]); refine bodyPost_ret (results_none rfl _ _ _) rfl ?_
          refine ⟨rfl, dk, H2.out.2.2, merge_right HO.out (i := i) HR.out hi (by omega) H.out.1 (fun x h1 h2 => H.out.2 x (by omega) h2) ?_, SB.out.trans S1.out⟩
          rw [← hk]
          exact H2.out.2.1
end Go.Proofs.YtkldnapbeebdkaaDoor.su
/- A row sorted by 'less' and 'swap': two sorted parts merged where they stand. -/
namespace Go.Proofs.YtkldnapbeebdkaaDoor.su
set_option linter.unusedVariables false
open Go.Shelf Go.RowKit Go.Lib Go.Sort
open mem st
variable {α : Type} [Inhabited α]
theorem half_left {α : Type} [Inhabited α] {T : α → α → Bool} {a s mid : Nat} {d : Array α} (h1 : SortedIn T a s d) (h2 : SortedIn T s mid d) (h : ¬ (a < s ∧ s < mid)) (has : a ≤ s) : SortedIn T a mid d := by
  by_cases hs : a < s
  · intro i j p q r; exact h1 i j p q (by omega)
  · intro i j p q r; exact h2 i j (by omega) q r
theorem half_right {α : Type} [Inhabited α] {T : α → α → Bool} {mid e b : Nat} {d : Array α} (h1 : SortedIn T mid e d) (h2 : SortedIn T e b d) (h : ¬ (mid < e ∧ e < b)) (heb : e ≤ b) : SortedIn T mid b d := by
  by_cases hs : mid < e
  · intro i j p q r; exact h1 i j p q (by omega)
  · intro i j p q r; exact h2 i j (by omega) q r
theorem Rt.none {α : Type} [Inhabited α] {s m e : Nat} (d : Array α) (h : ¬ (s < m ∧ m < e)) (h1 : s ≤ m) (h2 : m ≤ e) : Rt s m e d d := by
  refine ⟨rfl, fun x => ?_⟩
  by_cases hs : s < m
  · rw [if_neg (by omega)]
    split
    · congr 1; omega
    · rfl
  · split
    · congr 1; omega
    · rw [if_neg (by omega)]
set_option maxHeartbeats 16000000 in
set_option maxRecDepth 1000000 in
theorem sym_a (T : α → α → Bool) (hO : SWO T) {enc : α → Value} {lt : α → α → Bool} {g : Nat} {lb : Array Value} {sf : Nat} {sb : Array Value} {w0 : World} {blk off : Nat} {d0 : Array α} (L : Ls enc lt g lb sf sb w0 blk off d0) (a m b : Nat) (d : Array α) (w : World) (hs : d.size = d0.size) (S : SW enc w0 blk off d w) (ham : a + 1 < m) (hmb : m + 1 < b) (hb : b ≤ d.size) (hsz : d.size < 4611686018427387904)
    (hl : SortedIn T a m d) (hr : SortedIn T m b d) (hf : st.Fair lt T a m b d)
    (hmid : (a + b) / 2 < m)
    (IH : ∀ (a' m' b' : Nat) (d' : Array α) (w' : World), b' - a' < b - a → d'.size = d0.size → SW enc w0 blk off d' w' → a' < m' → m' < b' → b' ≤ d'.size → SortedIn T a' m' d' → SortedIn T m' b' d' → st.Fair lt T a' m' b' d' →
      Calls Tryd.prog 65 #[dv g lb sf sb, .int .i64 a', .int .i64 m', .int .i64 b'] w' fun e w'' => e = .returned (.tuple #[]) ∧ ∃ d'', PermIn a' b' d' d'' ∧ SortedIn T a' b' d'' ∧ St enc w0 blk off d'' w' w'') :
    Calls Tryd.prog 65 #[dv g lb sf sb, .int .i64 a, .int .i64 m, .int .i64 b] w fun e w' => e = .returned (.tuple #[]) ∧ ∃ d', PermIn a b d d' ∧ SortedIn T a b d' ∧ St enc w0 blk off d' w w' := by
  have mixed := mixedP
  have eg := L.eg
  have hbw : blk < w.heap.size := S.lt L.hblk
  have SB : Aside (St enc w0 blk off d w (w.alloc (bxo g lb sf sb))) := St.boxed S _
  have S0 : Aside (St enc w0 blk off d (w.alloc (bxo g lb sf sb)) (w.alloc (bxo g lb sf sb))) := ⟨S.alloc _, World.grownBy.refl _ _⟩
  have HL : Hid (SortedIn T a m d) := hl
  have HR : Hid (SortedIn T m b d) := hr
  have HF : Hid (st.Fair lt T a m b d) := hf
  have HO : Hid (SWO T) := hO
  have HI : Aside _ := IH
  clear S hl hr hf hO IH
  have h1 : (((m : Int) - (a : Int)) == 1) = false := by rw [beq_eq_false_iff_ne]; omega
  have h2 : (((b : Int) - (m : Int)) == 1) = false := by rw [beq_eq_false_iff_ne]; omega
  go_enter Tryd.func65, Tryd.ntmps65
  have hmz : ((a : Int) + (b : Int)) / 2 < (m : Int) := by omega
  go_wp2
  go_loopg [18, 19] (b - a) (fun kx s20 s21 wr => ∃ (s r : Nat), s20 = .int .i64 s ∧ s21 = .int .i64 r ∧ ((a + b) / 2 + m - b) ≤ s ∧ s ≤ r ∧ r ≤ ((a + b) / 2) ∧ r - s ≤ kx ∧ Hid ((s = ((a + b) / 2 + m - b) ∨ (a < s ∧ T d[(a + b) / 2 + m - s]! d[s - 1]! = false)) ∧ (r = ((a + b) / 2) ∨ T d[(a + b) / 2 + m - 1 - r]! d[r]! = true)) ∧ Aside (St enc w0 blk off d (w.alloc (bxo g lb sf sb)) wr))
  case atStart => exact ⟨((a + b) / 2 + m - b), ((a + b) / 2), by first | rfl | (congr 1; done) | (congr 1; omega), by first | rfl | (congr 1; done) | (congr 1; omega), Nat.le_refl _, by omega, Nat.le_refl _, by omega, ⟨Or.inl rfl, Or.inl rfl⟩, S0⟩
  case round =>
    clear S0
    obtain ⟨s, r, rfl, rfl, hs0, hsr, hr0, hkx, H, S1⟩ := hrel
    obtain ⟨bx0, bx1⟩ := S1.out.box hbw
    by_cases hlt : s < r
    · have hltz : (s : Int) < r := by omega
      clear HI
      go_wp2_with fail
      obtain ⟨pc, hpc⟩ : ∃ pc, pc = (a + b) / 2 + m - 1 - (s + r) / 2 := ⟨_, rfl⟩
      have hpcz : ((a : Int) + (b : Int)) / 2 + (m : Int) - 1 - ((s : Int) + (r : Int)) / 2 = (pc : Int) := by omega
      have hpc1 : m ≤ pc := by omega
      have hpc2 : pc < b := by omega
      have HPC : Hid (pc = (a + b) / 2 + m - 1 - (s + r) / 2) := hpc
      clear hpc
      have HFh : Hid (lt d[pc]! d[(s + r) / 2]! = T d[pc]! d[(s + r) / 2]!) := HF.out ((s + r) / 2) pc (by omega) (by omega) (by omega) (by omega)
      cases hlv : lt d[pc]! d[(s + r) / 2]! with
      | false =>
        have HT : Hid (T d[pc]! d[(s + r) / 2]! = false) := by rw [← HFh.out]; exact hlv
        refine (L.less S1.out (by omega) (pc) ((s + r) / 2) (((a : Int) + (b : Int)) / 2 + (m : Int) - 1 - ((s : Int) + (r : Int)) / 2) (((s : Int) + (r : Int)) / 2) (by omega) (by omega) (by omega) (by omega) false hlv).mono ?_
        rintro _ w2 ⟨rfl, S3⟩
        clear bx0 bx1 S1
        go_wp2
        go_roundg (r - ((s + r) / 2 + 1))
        case measure => omega
        case rel => exact ⟨(s + r) / 2 + 1, r, by first | rfl | (congr 1; done) | (congr 1; omega), rfl, by omega, by omega, hr0, Nat.le_refl _, ⟨Or.inr ⟨by omega, by rw [show (a + b) / 2 + m - ((s + r) / 2 + 1) = pc by have := HPC.out; omega]; exact HT.out⟩, H.out.2⟩, S3⟩
      | true =>
        have HT : Hid (T d[pc]! d[(s + r) / 2]! = true) := by rw [← HFh.out]; exact hlv
        refine (L.less S1.out (by omega) (pc) ((s + r) / 2) (((a : Int) + (b : Int)) / 2 + (m : Int) - 1 - ((s : Int) + (r : Int)) / 2) (((s : Int) + (r : Int)) / 2) (by omega) (by omega) (by omega) (by omega) true hlv).mono ?_
        rintro _ w2 ⟨rfl, S3⟩
        clear bx0 bx1 S1
        go_wp2
        go_roundg ((s + r) / 2 - s)
        case measure => omega
        case rel => exact ⟨s, (s + r) / 2, rfl, by first | rfl | (congr 1; done) | (congr 1; omega), hs0, by omega, by omega, Nat.le_refl _, ⟨H.out.1, Or.inr (by rw [← HPC.out]; exact HT.out)⟩, S3⟩
    · have hltz : ¬ (s : Int) < r := by omega
      have hsr2 : r = s := by omega
      have C1 : Hid (s < m → m < (a + b) / 2 + m - s → T d[(a + b) / 2 + m - s - 1]! d[s]! = true) := fun p q => by
        rcases H.out.2 with h | h
        · omega
        · rw [hsr2] at h
          rw [show (a + b) / 2 + m - s - 1 = (a + b) / 2 + m - 1 - s by omega]
          exact h
      have C2 : Hid (a < s → (a + b) / 2 + m - s < b → T d[(a + b) / 2 + m - s]! d[s - 1]! = false) := fun p q => by
        rcases H.out.1 with h | h
        · omega
        · exact h.2
      clear H
      obtain ⟨e, he⟩ : ∃ e, e = (a + b) / 2 + m - s := ⟨_, rfl⟩
      rw [← he] at C1 C2
      have hez : (e : Int) = ((a : Int) + (b : Int)) / 2 + (m : Int) - (s : Int) := by omega
      have hmidz : (((a + b) / 2 : Nat) : Int) = ((a : Int) + (b : Int)) / 2 := by omega
      by_cases hr1 : s < m ∧ m < e
      · by_cases hl3 : a < s
        · by_cases hr3x : e < b
          · skip
            have hr1a : (s : Int) < (m : Int) := by omega
            have hr1b : (m : Int) < ((a : Int) + (b : Int)) / 2 + (m : Int) - (s : Int) := by omega
            have hl3a : (a : Int) < (s : Int) := by omega
            have hl3b : (s : Int) < ((a : Int) + (b : Int)) / 2 := by omega
            have hr3a : ((a : Int) + (b : Int)) / 2 < ((a : Int) + (b : Int)) / 2 + (m : Int) - (s : Int) := by omega
            have hr3b : ((a : Int) + (b : Int)) / 2 + (m : Int) - (s : Int) < (b : Int) := by omega
            go_wp2_with fail
            have c1 := rotate_at L s m e d wr hs S1.out.1 (by omega) (by omega) (by omega) hsz
            rw [hez] at c1
            refine Calls.mono c1 ?_
            rintro _ w2 ⟨rfl, d1, hrt, hp1, hS1⟩
            have HRt : Hid (Rt s m e d d1) := hrt
            have HP1 : Hid (PermIn a b d d1) := permIn_mono d d1 s e a b (by omega) (by omega) hb hp1
            have S4 : Aside (St enc w0 blk off d1 (w.alloc (bxo g lb sf sb)) w2) := S1.out.trans hS1
            clear bx0 bx1
            obtain ⟨bx0, bx1⟩ := S4.out.box hbw
            clear hrt hp1 hS1 c1
            go_wp2_with fail
            have PL : Hid _ := parts_left (lt := lt) (s := s) (e := e) (mid := (a + b) / 2) HL.out HR.out HF.out (by omega) (by omega) (by omega) (by omega) (by omega) HRt.out
            have hz1 : d1.size = d.size := HP1.out.1
            have c2 := HI.out a s ((a + b) / 2) d1 w2 (by omega) (by omega) S4.out.1 (by omega) (by omega) (by omega) PL.out.1 PL.out.2.1 PL.out.2.2.1
            rw [hmidz] at c2
            refine Calls.mono c2 ?_
            rintro _ w3 ⟨rfl, d2, hp2, hs2, hS2⟩
            have HP2 : Hid (PermIn a ((a + b) / 2) d1 d2) := hp2
            have HS2 : Hid (SortedIn T a ((a + b) / 2) d2) := hs2
            have S5 : Aside (St enc w0 blk off d2 (w.alloc (bxo g lb sf sb)) w3) := S4.out.trans hS2
            clear bx0 bx1
            obtain ⟨bx0, bx1⟩ := S5.out.box hbw
            clear hp2 hs2 hS2 c2
            go_wp2_with fail
            have hz2 : d2.size = d.size := HP2.out.1.trans HP1.out.1
            have c3 := HI.out ((a + b) / 2) e b d2 w3 (by omega) (by omega) S5.out.1 (by omega) (by omega) (by omega) (fun i j p q r => by rw [HP2.out.2.1 i (by omega), HP2.out.2.1 j (by omega)]; exact PL.out.2.2.2.1 i j p q r) (fun i j p q r => by rw [HP2.out.2.1 i (by omega), HP2.out.2.1 j (by omega)]; exact PL.out.2.2.2.2.1 i j p q r) (fun i j p q r t => by rw [HP2.out.2.1 i (by omega), HP2.out.2.1 j (by omega)]; exact PL.out.2.2.2.2.2 i j p q r t)
            rw [hmidz, hez] at c3
            refine Calls.mono c3 ?_
            rintro _ w4 ⟨rfl, d3, hp3, hs3, hS3⟩
            go_wp2_with fail
            go_end0
            obtain ⟨q1, q2⟩ := merge_main HO.out (s := s) (e := e) (mid := (a + b) / 2) hb HL.out HR.out (by omega) (by omega) (by omega) (by omega) (by omega) C1.out C2.out HRt.out HP1.out HP2.out HS2.out hp3 hs3
            exact ⟨rfl, d3, q1, q2, SB.out.trans (S5.out.trans hS3)⟩
          · skip
            have hr1a : (s : Int) < (m : Int) := by omega
            have hr1b : (m : Int) < ((a : Int) + (b : Int)) / 2 + (m : Int) - (s : Int) := by omega
            have hl3a : (a : Int) < (s : Int) := by omega
            have hl3b : (s : Int) < ((a : Int) + (b : Int)) / 2 := by omega
            have hr3a : ((a : Int) + (b : Int)) / 2 < ((a : Int) + (b : Int)) / 2 + (m : Int) - (s : Int) := by omega
            have hr3b : ¬ ((a : Int) + (b : Int)) / 2 + (m : Int) - (s : Int) < (b : Int) := by omega
            go_wp2_with fail
            have c1 := rotate_at L s m e d wr hs S1.out.1 (by omega) (by omega) (by omega) hsz
            rw [hez] at c1
            refine Calls.mono c1 ?_
            rintro _ w2 ⟨rfl, d1, hrt, hp1, hS1⟩
            have HRt : Hid (Rt s m e d d1) := hrt
            have HP1 : Hid (PermIn a b d d1) := permIn_mono d d1 s e a b (by omega) (by omega) hb hp1
            have S4 : Aside (St enc w0 blk off d1 (w.alloc (bxo g lb sf sb)) w2) := S1.out.trans hS1
            clear bx0 bx1
            obtain ⟨bx0, bx1⟩ := S4.out.box hbw
            clear hrt hp1 hS1 c1
            go_wp2_with fail
            have PL : Hid _ := parts_left (lt := lt) (s := s) (e := e) (mid := (a + b) / 2) HL.out HR.out HF.out (by omega) (by omega) (by omega) (by omega) (by omega) HRt.out
            have hz1 : d1.size = d.size := HP1.out.1
            have c2 := HI.out a s ((a + b) / 2) d1 w2 (by omega) (by omega) S4.out.1 (by omega) (by omega) (by omega) PL.out.1 PL.out.2.1 PL.out.2.2.1
            rw [hmidz] at c2
            refine Calls.mono c2 ?_
            rintro _ w3 ⟨rfl, d2, hp2, hs2, hS2⟩
            have HP2 : Hid (PermIn a ((a + b) / 2) d1 d2) := hp2
            have HS2 : Hid (SortedIn T a ((a + b) / 2) d2) := hs2
            have S5 : Aside (St enc w0 blk off d2 (w.alloc (bxo g lb sf sb)) w3) := S4.out.trans hS2
            clear bx0 bx1
            obtain ⟨bx0, bx1⟩ := S5.out.box hbw
            clear hp2 hs2 hS2 c2
            go_wp2_with fail
            go_end0
            obtain ⟨q1, q2⟩ := merge_main HO.out (s := s) (e := e) (mid := (a + b) / 2) (d3 := d2) hb HL.out HR.out (by omega) (by omega) (by omega) (by omega) (by omega) C1.out C2.out HRt.out HP1.out HP2.out HS2.out (permIn_refl _ _ _) (half_right (fun i j p q r => by rw [HP2.out.2.1 i (by omega), HP2.out.2.1 j (by omega)]; exact PL.out.2.2.2.1 i j p q r) (fun i j p q r => by rw [HP2.out.2.1 i (by omega), HP2.out.2.1 j (by omega)]; exact PL.out.2.2.2.2.1 i j p q r) (by omega) (by omega))
            exact ⟨rfl, _, q1, q2, SB.out.trans S5.out⟩
        · by_cases hr3x : e < b
          · skip
            have hr1a : (s : Int) < (m : Int) := by omega
            have hr1b : (m : Int) < ((a : Int) + (b : Int)) / 2 + (m : Int) - (s : Int) := by omega
            have hl3a : ¬ (a : Int) < (s : Int) := by omega
            have hr3a : ((a : Int) + (b : Int)) / 2 < ((a : Int) + (b : Int)) / 2 + (m : Int) - (s : Int) := by omega
            have hr3b : ((a : Int) + (b : Int)) / 2 + (m : Int) - (s : Int) < (b : Int) := by omega
            go_wp2_with fail
            have c1 := rotate_at L s m e d wr hs S1.out.1 (by omega) (by omega) (by omega) hsz
            rw [hez] at c1
            refine Calls.mono c1 ?_
            rintro _ w2 ⟨rfl, d1, hrt, hp1, hS1⟩
            have HRt : Hid (Rt s m e d d1) := hrt
            have HP1 : Hid (PermIn a b d d1) := permIn_mono d d1 s e a b (by omega) (by omega) hb hp1
            have S4 : Aside (St enc w0 blk off d1 (w.alloc (bxo g lb sf sb)) w2) := S1.out.trans hS1
            clear bx0 bx1
            obtain ⟨bx0, bx1⟩ := S4.out.box hbw
            clear hrt hp1 hS1 c1
            go_wp2_with fail
            have PL : Hid _ := parts_left (lt := lt) (s := s) (e := e) (mid := (a + b) / 2) HL.out HR.out HF.out (by omega) (by omega) (by omega) (by omega) (by omega) HRt.out
            have HP2 : Hid (PermIn a ((a + b) / 2) d1 d1) := permIn_refl _ _ _
            have HS2 : Hid (SortedIn T a ((a + b) / 2) d1) := half_left PL.out.1 PL.out.2.1 (by omega) (by omega)
            have hz2 : d1.size = d.size := HP2.out.1.trans HP1.out.1
            have c3 := HI.out ((a + b) / 2) e b d1 w2 (by omega) (by omega) S4.out.1 (by omega) (by omega) (by omega) (fun i j p q r => by rw [HP2.out.2.1 i (by omega), HP2.out.2.1 j (by omega)]; exact PL.out.2.2.2.1 i j p q r) (fun i j p q r => by rw [HP2.out.2.1 i (by omega), HP2.out.2.1 j (by omega)]; exact PL.out.2.2.2.2.1 i j p q r) (fun i j p q r t => by rw [HP2.out.2.1 i (by omega), HP2.out.2.1 j (by omega)]; exact PL.out.2.2.2.2.2 i j p q r t)
            rw [hmidz, hez] at c3
            refine Calls.mono c3 ?_
            rintro _ w4 ⟨rfl, d3, hp3, hs3, hS3⟩
            go_wp2_with fail
            go_end0
            obtain ⟨q1, q2⟩ := merge_main HO.out (s := s) (e := e) (mid := (a + b) / 2) hb HL.out HR.out (by omega) (by omega) (by omega) (by omega) (by omega) C1.out C2.out HRt.out HP1.out HP2.out HS2.out hp3 hs3
            exact ⟨rfl, d3, q1, q2, SB.out.trans (S4.out.trans hS3)⟩
          · skip
            have hr1a : (s : Int) < (m : Int) := by omega
            have hr1b : (m : Int) < ((a : Int) + (b : Int)) / 2 + (m : Int) - (s : Int) := by omega
            have hl3a : ¬ (a : Int) < (s : Int) := by omega
            have hr3a : ((a : Int) + (b : Int)) / 2 < ((a : Int) + (b : Int)) / 2 + (m : Int) - (s : Int) := by omega
            have hr3b : ¬ ((a : Int) + (b : Int)) / 2 + (m : Int) - (s : Int) < (b : Int) := by omega
            go_wp2_with fail
            have c1 := rotate_at L s m e d wr hs S1.out.1 (by omega) (by omega) (by omega) hsz
            rw [hez] at c1
            refine Calls.mono c1 ?_
            rintro _ w2 ⟨rfl, d1, hrt, hp1, hS1⟩
            have HRt : Hid (Rt s m e d d1) := hrt
            have HP1 : Hid (PermIn a b d d1) := permIn_mono d d1 s e a b (by omega) (by omega) hb hp1
            have S4 : Aside (St enc w0 blk off d1 (w.alloc (bxo g lb sf sb)) w2) := S1.out.trans hS1
            clear bx0 bx1
            obtain ⟨bx0, bx1⟩ := S4.out.box hbw
            clear hrt hp1 hS1 c1
            go_wp2_with fail
            have PL : Hid _ := parts_left (lt := lt) (s := s) (e := e) (mid := (a + b) / 2) HL.out HR.out HF.out (by omega) (by omega) (by omega) (by omega) (by omega) HRt.out
            have HP2 : Hid (PermIn a ((a + b) / 2) d1 d1) := permIn_refl _ _ _
            have HS2 : Hid (SortedIn T a ((a + b) / 2) d1) := half_left PL.out.1 PL.out.2.1 (by omega) (by omega)
            go_end0
            obtain ⟨q1, q2⟩ := merge_main HO.out (s := s) (e := e) (mid := (a + b) / 2) (d3 := d1) hb HL.out HR.out (by omega) (by omega) (by omega) (by omega) (by omega) C1.out C2.out HRt.out HP1.out HP2.out HS2.out (permIn_refl _ _ _) (half_right (fun i j p q r => by rw [HP2.out.2.1 i (by omega), HP2.out.2.1 j (by omega)]; exact PL.out.2.2.2.1 i j p q r) (fun i j p q r => by rw [HP2.out.2.1 i (by omega), HP2.out.2.1 j (by omega)]; exact PL.out.2.2.2.2.1 i j p q r) (by omega) (by omega))
            exact ⟨rfl, _, q1, q2, SB.out.trans S4.out⟩
      · skip
        have hr1a : (s : Int) < (m : Int) := by omega
        have hr1b : ¬ (m : Int) < ((a : Int) + (b : Int)) / 2 + (m : Int) - (s : Int) := by omega
        have hl3a : (a : Int) < (s : Int) := by omega
        have hl3b : ¬ (s : Int) < ((a : Int) + (b : Int)) / 2 := by omega
        have hr3a : ((a : Int) + (b : Int)) / 2 < ((a : Int) + (b : Int)) / 2 + (m : Int) - (s : Int) := by omega
        have hr3b : ((a : Int) + (b : Int)) / 2 + (m : Int) - (s : Int) < (b : Int) := by omega
        go_wp2_with fail
        have HRt : Hid (Rt s m e d d) := Rt.none d (by omega) (by omega) (by omega)
        have HP1 : Hid (PermIn a b d d) := permIn_refl _ _ _
        have PL : Hid _ := parts_left (lt := lt) (s := s) (e := e) (mid := (a + b) / 2) HL.out HR.out HF.out (by omega) (by omega) (by omega) (by omega) (by omega) HRt.out
        have HP2 : Hid (PermIn a ((a + b) / 2) d d) := permIn_refl _ _ _
        have HS2 : Hid (SortedIn T a ((a + b) / 2) d) := half_left PL.out.1 PL.out.2.1 (by omega) (by omega)
        have hz2 : d.size = d.size := HP2.out.1.trans HP1.out.1
        have c3 := HI.out ((a + b) / 2) e b d wr (by omega) (by omega) S1.out.1 (by omega) (by omega) (by omega) (fun i j p q r => by rw [HP2.out.2.1 i (by omega), HP2.out.2.1 j (by omega)]; exact PL.out.2.2.2.1 i j p q r) (fun i j p q r => by rw [HP2.out.2.1 i (by omega), HP2.out.2.1 j (by omega)]; exact PL.out.2.2.2.2.1 i j p q r) (fun i j p q r t => by rw [HP2.out.2.1 i (by omega), HP2.out.2.1 j (by omega)]; exact PL.out.2.2.2.2.2 i j p q r t)
        rw [hmidz, hez] at c3
        refine Calls.mono c3 ?_
        rintro _ w4 ⟨rfl, d3, hp3, hs3, hS3⟩
        go_wp2_with fail
        go_end0
        obtain ⟨q1, q2⟩ := merge_main HO.out (s := s) (e := e) (mid := (a + b) / 2) hb HL.out HR.out (by omega) (by omega) (by omega) (by omega) (by omega) C1.out C2.out HRt.out HP1.out HP2.out HS2.out hp3 hs3
        exact ⟨rfl, d3, q1, q2, SB.out.trans (S1.out.trans hS3)⟩
end Go.Proofs.YtkldnapbeebdkaaDoor.su
