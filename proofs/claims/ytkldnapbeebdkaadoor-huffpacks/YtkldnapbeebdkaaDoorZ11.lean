/- Texts laid together: St7, Hf1. -/
import Derived.Test.YtkldnapbeebdkaaDoorZ10
import Derived.Test.YtkldnapbeebdkaaDoorZ3
import Derived.Deep.Upon
import Derived.Deep.MidRow
/- Groups in a row: the whole sort. -/
namespace Go.Proofs.YtkldnapbeebdkaaDoor.st
set_option linter.unusedVariables false
open Go.Shelf Go.RowKit Go.Lib Go.Sort
open mem
/-- Sorted by inserting, between two places. -/
theorem insertion_at (blk off cap a b : Nat) (d0 d : Array (Gv × Nat)) (w0 w : World) (R : R2 w0 blk off d0) (hs : d0.size = d.size) (S : S2 w0 blk off d w) (hab : a ≤ b) (hb : b ≤ d.size) (hsz : d.size < 4611686018427387904) (ht : ∀ x, a ≤ x → x < b → d[x]!.2 = x) :
    Calls Tryd.prog 52 #[.slice (some ⟨blk, off, none⟩) d.size cap, .int .i64 a, .int .i64 b, fnv] w fun e w' => e = .returned (.tuple #[]) ∧ ∃ d', PermIn a b d d' ∧ SortedIn T a b d' ∧ S2 w0 blk off d' w' := by
  have eg : ∀ args w, (callFunc 21 args).run Tryd.prog w = .ok (.enter 21 args) w := enters_of Tryd.func21 (by kernel_rfl) rfl
  have hblk : blk < w.heap.size := SWK.lt S R.hblk
  have hc := AnyQ.insertionSortCmpFunc layS.laid 2 (fun w => by kernel_rfl) (fun w => by kernel_rfl) enc enc_len enc_one cf 21 #[] blk off cap a b d w eg (cmp_lays blk off d.size w) (SWK.holds S R.hblk R.hH (by omega)) hblk hab hb hsz
  refine hc.mono ?_
  rintro e w' ⟨rfl, n, os, rfl⟩
  obtain ⟨h1, h2⟩ := insertion_T hab hb ht
  exact ⟨rfl, _, h1, h2, SWK.on S R.hblk n _ os h1.1⟩
set_option maxHeartbeats 16000000 in
set_option maxRecDepth 1000000 in
theorem stable_at (blk off cap : Nat) (d : Array (Gv × Nat)) (w : World) (R : R2 w blk off d) (hsz : d.size ≤ 20000) (ht : ∀ x, x < d.size → d[x]!.2 = x) :
    Calls Tryd.prog 36 #[.slice (some ⟨blk, off, none⟩) d.size cap, .int .i64 d.size, fnv] w fun e w' => e = .returned (.tuple #[]) ∧ ∃ d', PermIn 0 d.size d d' ∧ SortedIn T 0 d.size d' ∧ S2 w blk off d' w' := by
  have S0 : Aside (S2 w blk off d w) := SWK.start R.hH
  have HT : Hid (∀ x, x < d.size → d[x]!.2 = x) := ht
  obtain ⟨n, hn⟩ : ∃ n, n = d.size := ⟨_, rfl⟩
  rw [← hn] at hsz ⊢
  have HN : Hid (n = d.size) := hn
  clear ht hn
  go_enter Tryd.func36, Tryd.ntmps36
  go_wp2
  go_loopg [7, 8] n (fun kx s7 s8 wr => ∃ (q a : Nat) (dk : Array (Gv × Nat)), s7 = .int .i64 a ∧ s8 = .int .i64 ((a : Int) + 20) ∧ a ≤ n ∧ n - a ≤ kx ∧ Hid (a = q * 20 ∧ dk.size = n ∧ PermIn 0 n d dk ∧ (∀ x, a ≤ x → x < n → dk[x]!.2 = x) ∧ (∀ i j, i < j → j < a → i / 20 = j / 20 → T dk[j]! dk[i]! = false) ∧ Tg 20 n dk) ∧ Aside (S2 w blk off dk wr))
  case atStart => exact ⟨0, 0, d, rfl, rfl, by omega, by omega, ⟨by omega, HN.out.symm, permIn_refl _ _ _, fun x _ h => HT.out x (by rw [← HN.out]; exact h), fun i j _ h => by omega, fun i hi => by rw [HT.out i (by rw [← HN.out]; exact hi)]⟩, S0⟩
  case round =>
    clear S0
    obtain ⟨q, a, dk, rfl, rfl, han, hkx, H, S1⟩ := hrel
    obtain ⟨haq, hz, hp, h1, h2, h3⟩ := H.out
    by_cases hlt : a + 20 ≤ n
    · have hltz : (a : Int) + 20 ≤ n := by omega
      have c := insertion_at blk off cap a (a + 20) d dk w wr R (by have := HN.out; omega) S1.out (by omega) (by omega) (by omega) (fun x p q => h1 x p (by omega))
      rw [hz, show ((a + 20 : Nat) : Int) = (a : Int) + 20 by omega] at c
      clear haq hz hp h1 h2 h3
      go_wp2_with fail
      refine Calls.mono c ?_
      rintro _ w2 ⟨rfl, d1, p1, s1, S3⟩
      have HP : Hid (PermIn a (a + 20) dk d1) := p1
      have HS : Hid (SortedIn T a (a + 20) d1) := s1
      have S4 : Aside (S2 w blk off d1 w2) := S3
      clear p1 s1 S3 c S1
      go_wp2
      go_roundg (n - (a + 20))
      case measure => omega
      case rel =>
        obtain ⟨haq, hz, hp, h1, h2, h3⟩ := H.out
        refine ⟨q + 1, a + 20, d1, by first | rfl | go_num | (congr 1; omega), by first | rfl | go_num | (congr 1; omega), hlt, Nat.le_refl _, ⟨by omega, HP.out.1.trans hz, permIn_trans _ _ _ _ _ hp (permIn_mono dk d1 a (a + 20) 0 n (by omega) (by omega) (by omega) HP.out), fun x p q => by rw [HP.out.2.1 x (by omega)]; exact h1 x (by omega) q, fun i j hij hj hd => ?_, tg_perm h3 (by omega) hlt HP.out (fun i j p q r t => by omega)⟩, S4⟩
        by_cases hja : j < a
        · rw [HP.out.2.1 i (by omega), HP.out.2.1 j (by omega)]; exact h2 i j hij hja hd
        · exact HS.out i j (by omega) hij hj
    · have hltz : ¬ (a : Int) + 20 ≤ n := by omega
      have c := insertion_at blk off cap a n d dk w wr R (by have := HN.out; omega) S1.out (by omega) (by omega) (by omega) (fun x p q => h1 x p (by omega))
      rw [hz] at c
      clear haq hz hp h1 h2 h3
      go_wp2_with fail
      refine Calls.mono c ?_
      rintro _ w2 ⟨rfl, d1, p1, s1, S3⟩
      have HB : Hid (d1.size = n ∧ PermIn 0 n d d1 ∧ Bk 20 n d1 ∧ Tg 20 n d1) := by
        obtain ⟨haq, hz, hp, h1, h2, h3⟩ := H.out
        refine ⟨p1.1.trans hz, permIn_trans _ _ _ _ _ hp (permIn_mono dk d1 a n 0 n (by omega) (by omega) (by omega) p1), fun i j hij hj hd => ?_, tg_perm h3 (by omega) (Nat.le_refl _) p1 (fun i j p q r t => by omega)⟩
        by_cases hja : j < a
        · rw [p1.2.1 i (by omega), p1.2.1 j (by omega)]; exact h2 i j hij hja hd
        · exact s1 i j (by omega) hij hj
      have S4 : Aside (S2 w blk off d1 w2) := S3
      clear p1 s1 S3 c S1 H
      go_wp2_with fail
      go_loopg [6, 7, 8, 9] n (fun kx s6 s7 s8 s9 wr => ∃ (s : Nat) (dk : Array (Gv × Nat)), s6 = .int .i64 s ∧ 20 ≤ s ∧ s ≤ 40000 ∧ n - s ≤ kx ∧ Hid (dk.size = n ∧ PermIn 0 n d dk ∧ Bk s n dk ∧ Tg s n dk) ∧ Aside (S2 w blk off dk wr))
      case atStart => exact ⟨20, d1, rfl, by omega, by omega, by omega, HB, S4⟩
      case round =>
        clear S4 HB
        obtain ⟨s, dk, rfl, hs20, hs4, hkx, H, S1⟩ := hrel
        by_cases hlt : s < n
        · have hltz : (s : Int) < n := by omega
          go_wp2_with fail
          go_loopg [7, 8] n (fun kx s7 s8 wr => ∃ (q a : Nat) (dk : Array (Gv × Nat)), s7 = .int .i64 a ∧ s8 = .int .i64 ((a : Int) + 2 * (s : Int)) ∧ a ≤ n ∧ n - a ≤ kx ∧ Hid (a = q * (s * 2) ∧ dk.size = n ∧ PermIn 0 n d dk ∧ Hw s q n dk) ∧ Aside (S2 w blk off dk wr))
          case atStart => exact ⟨0, 0, dk, rfl, by first | rfl | (congr 1; omega), by omega, by omega, ⟨by omega, H.out.1, H.out.2.1, Hw.start H.out.2.2.1 H.out.2.2.2⟩, S1⟩
          case round =>
            clear S1 H dk
            obtain ⟨q, a, dk, rfl, rfl, han, hkx2, H, S1⟩ := hrel
            obtain ⟨haq, hz, hp, hw⟩ := H.out
            by_cases hlt2 : a + 2 * s ≤ n
            · have hlt2z : (a : Int) + 2 * (s : Int) ≤ n := by omega
              have hpre := hw.pre (b := a + 2 * s) (by omega) hlt2 (by omega) (by omega)
              rw [← haq] at hpre
              have c := symMerge_at T swoT blk off cap d w R (by have := HN.out; omega) (2 * s) a (a + s) (a + 2 * s) dk wr (by omega) (by have := HN.out; omega) S1.out (by omega) (by omega) (by omega) hpre.1 hpre.2.1 hpre.2.2
              rw [hz, show ((a + s : Nat) : Int) = (a : Int) + (s : Int) by omega, show ((a + 2 * s : Nat) : Int) = (a : Int) + 2 * (s : Int) by omega] at c
              clear haq hz hp hw hpre
              go_wp2_with fail
              refine Calls.mono c ?_
              rintro _ w3 ⟨rfl, d2, p1, s1, S3⟩
              have HP : Hid (PermIn a (a + 2 * s) dk d2) := p1
              have HS : Hid (SortedIn T a (a + 2 * s) d2) := s1
              have S4 : Aside (S2 w blk off d2 w3) := S3
              clear p1 s1 S3 c S1
              go_wp2
              go_roundg (n - (a + 2 * s))
              case measure => omega
              case rel =>
                obtain ⟨haq, hz, hp, hw⟩ := H.out
                have p1 := HP.out
                have s1 := HS.out
                refine ⟨q + 1, a + 2 * s, d2, by first | rfl | go_num | (congr 1; omega), by first | rfl | go_num | (congr 1; omega), hlt2, Nat.le_refl _, ⟨by rw [Nat.add_mul]; omega, p1.1.trans hz, permIn_trans _ _ _ _ _ hp (permIn_mono dk d2 a (a + 2 * s) 0 n (by omega) (by omega) (by omega) p1), ?_⟩, S4⟩
                rw [haq] at p1 s1 hlt2
                exact hw.next (by omega) (by omega) hlt2 (by omega) (Or.inl (by omega)) p1 s1
            · have hlt2z : ¬ (a : Int) + 2 * (s : Int) ≤ n := by omega
              by_cases hm : a + s < n
              · have hmz : (a : Int) + (s : Int) < n := by omega
                have hpre := hw.pre (b := n) (by omega) (Nat.le_refl _) (by omega) (by omega)
                rw [← haq] at hpre
                have c := symMerge_at T swoT blk off cap d w R (by have := HN.out; omega) n a (a + s) n dk wr (by omega) (by have := HN.out; omega) S1.out (by omega) (by omega) (by omega) hpre.1 hpre.2.1 hpre.2.2
                rw [hz, show ((a + s : Nat) : Int) = (a : Int) + (s : Int) by omega] at c
                clear haq hz hp hw hpre
                go_wp2_with fail
                refine Calls.mono c ?_
                rintro _ w3 ⟨rfl, d2, p1, s1, S3⟩
                have HP : Hid (PermIn a n dk d2) := p1
                have HS : Hid (SortedIn T a n d2) := s1
                have S4 : Aside (S2 w blk off d2 w3) := S3
                clear p1 s1 S3 c S1
                go_wp2
                go_roundg (n - s * 2)
                case measure => omega
                case rel =>
                  obtain ⟨haq, hz, hp, hw⟩ := H.out
                  have p1 := HP.out
                  have s1 := HS.out
                  have hpp := permIn_trans _ _ _ _ _ hp (permIn_mono dk d2 a n 0 n (by omega) (by omega) (by omega) p1)
                  rw [haq] at p1 s1
                  obtain ⟨b1, b2⟩ := (hw.next (b := n) (by omega) (by omega) (Nat.le_refl _) (by omega) (Or.inr rfl) p1 s1).done (by omega) (by rw [Nat.add_mul]; omega)
                  exact ⟨s * 2, d2, by first | rfl | go_num | (congr 1; omega), by omega, by omega, Nat.le_refl _, ⟨p1.1.trans hz, hpp, b1, b2⟩, S4⟩
              · have hmz : ¬ (a : Int) + (s : Int) < n := by omega
                clear haq hz hp hw
                go_wp2
                go_roundg (n - s * 2)
                case measure => omega
                case rel =>
                  obtain ⟨haq, hz, hp, hw⟩ := H.out
                  obtain ⟨b1, b2⟩ := hw.done (by omega) (by omega)
                  exact ⟨s * 2, dk, by first | rfl | go_num | (congr 1; omega), by omega, by omega, Nat.le_refl _, ⟨hz, hp, b1, b2⟩, S1⟩
        · have hltz : ¬ (s : Int) < n := by omega
          go_wp2
          go_end0
          exact ⟨rfl, dk, H.out.2.1, H.out.2.2.1.all (by omega), S1.out⟩
theorem sort_raw (blk off cap : Nat) (d : Array (Gv × Nat)) (w : World) (R : R2 w blk off d) (hsz : d.size ≤ 20000) (ht : ∀ x, x < d.size → d[x]!.2 = x) :
    Calls Tryd.prog 20 #[.slice (some ⟨blk, off, none⟩) d.size cap, fnv] w fun e w' => e = .returned (.tuple #[]) ∧ ∃ d', PermIn 0 d.size d d' ∧ SortedIn T 0 d.size d' ∧ S2 w blk off d' w' := by
  have c := stable_at blk off cap d w R hsz ht
  go_enter Tryd.func20, Tryd.ntmps20
  go_wp2_with fail
  refine Calls.mono c ?_
  rintro _ w2 ⟨rfl, h⟩
  go_wp2
  go_end0
  exact ⟨rfl, h⟩
end Go.Proofs.YtkldnapbeebdkaaDoor.st
/- Groups that lie in a row: one more behind them, and sorted. -/
namespace Go.Proofs.YtkldnapbeebdkaaDoor.hf
set_option linter.unusedVariables false
open Go.ChangeShapes Go.WideShapes Go.ChangeAt Go.RowKit
open Go.Sort
open mem rows st
def rowG (l : List Gv) : List Value := l.flatMap fun x => [.int .i64 x.1, .slice x.2.1 x.2.2.1 x.2.2.2]
theorem rowG_len (l : List Gv) : (rowG l).length = l.length * 2 := by
  induction l with
  | nil => rfl
  | cons x l ih => unfold rowG at ih ⊢; rw [List.flatMap_cons, List.length_append, ih]; simp; omega
theorem rowG_append (a b : List Gv) : rowG (a ++ b) = rowG a ++ rowG b := by unfold rowG; rw [List.flatMap_append]
theorem rowG_get (l : List Gv) (k : Nat) (h : k < l.length) : (rowG l)[k * 2]? = some (.int .i64 l[k].1) ∧ (rowG l)[k * 2 + 1]? = some (.slice l[k].2.1 l[k].2.2.1 l[k].2.2.2) := by
  induction l generalizing k with
  | nil => exact absurd h (Nat.not_lt_zero _)
  | cons x l ih =>
    have e : rowG (x :: l) = [.int .i64 x.1, .slice x.2.1 x.2.2.1 x.2.2.2] ++ rowG l := by unfold rowG; rw [List.flatMap_cons]
    rw [e]
    cases k with
    | zero => exact ⟨rfl, rfl⟩
    | succ k =>
      have := ih k (by simpa using h)
      rw [show (k + 1) * 2 = k * 2 + 2 by omega]
      exact this
theorem rowG_one (l : List Gv) (u : Value) (hu : u ∈ rowG l) : u.oneCell' = true := by
  unfold rowG at hu
  rw [List.mem_flatMap] at hu
  obtain ⟨y, _, hy⟩ := hu
  simp at hy
  rcases hy with rfl | rfl <;> rfl
theorem infoG : (Tryd.prog.info? 49).map (fun i => (i.zero, i.size, i.bytes)) = some (some (.agg #[.int .i64 0, .slice none 0 0]), 2, 32) := by kernel_rfl
theorem infoG' : ∃ i, Tryd.prog.info? 49 = some i ∧ i.zero = some (.agg #[.int .i64 0, .slice none 0 0]) ∧ i.size = 2 ∧ i.bytes = 32 := by
  obtain ⟨i, h1, h2⟩ := Option.map_eq_some_iff.1 infoG
  simp only [Prod.mk.injEq] at h2
  exact ⟨i, h1, h2.1, h2.2.1, h2.2.2⟩
/-- The block of a row. -/
def bk : Value → Option Nat
  | .slice (some a) _ _ => some a.block
  | _ => none
/-- A row of the call's own, somewhere in a block, that holds just these groups. -/
def Gr (w : World) (base : Nat) (v : Value) (l : List Gv) : Prop :=
  (v = .slice none 0 0 ∧ l = []) ∨ ∃ g off cap cur, v = .slice (some ⟨g, off, none⟩) l.length cap ∧ base ≤ g ∧ w.heap[g]? = some (.cells cur 49 (0, 0)) ∧ l.length ≤ cap ∧ off + cap * 2 ≤ cur.size ∧ ∀ j u, (rowG l)[j]? = some u → cur[off + j]? = some u
theorem cell_of {w : World} {g : Nat} {cur : Array Value} {e : TypeId} {fr : Nat × Nat} (h : w.heap[g]? = some (.cells cur e fr)) (j : Nat) : w.cell? ⟨g, j, none⟩ = cur[j]? := by
  simp [World.cell?, h]
theorem lt_of_heap {w : World} {g : Nat} {o : Obj} (h : w.heap[g]? = some o) : g < w.heap.size := (Array.getElem?_eq_some_iff.1 h).1
theorem Gr.nil (w : World) (base : Nat) : Gr w base (.slice none 0 0) [] := Or.inl ⟨rfl, rfl⟩
/-- It stays as it is while its block does. -/
theorem Gr.kept {w w' : World} {base : Nat} {v : Value} {l : List Gv} {row : Option Nat} (h : Gr w base v l) (hg : w.grownBy w' row) (hne : ∀ k, bk v = some k → row ≠ some k) : Gr w' base v l := by
  rcases h with h | ⟨g, off, cap, cur, h1, h2, h3, h4⟩
  · exact Or.inl h
  · refine Or.inr ⟨g, off, cap, cur, h1, h2, ?_, h4⟩
    subst h1
    rw [hg.block g (lt_of_heap h3) (fun e => hne g rfl e.symm)]
    exact h3
theorem Gr.step {w w' : World} {base : Nat} {v : Value} {l : List Gv} (h : Gr w base v l) (hb : Bl w w') : Gr w' base v l := by
  rcases h with h | ⟨g, off, cap, cur, h1, h2, h3, h4⟩
  · exact Or.inl h
  · exact Or.inr ⟨g, off, cap, cur, h1, h2, by rw [Below.block hb g (lt_of_heap h3)]; exact h3, h4⟩
theorem Gr.shape {w : World} {base : Nat} {v : Value} {l : List Gv} (h : Gr w base v l) (h0 : 0 < l.length) : ∃ g off cap, v = .slice (some ⟨g, off, none⟩) l.length cap ∧ base ≤ g ∧ g < w.heap.size ∧ l.length ≤ cap ∧
    ∀ k, (hk : k < l.length) → w.cell? ⟨g, off + k * 2, none⟩ = some (.int .i64 l[k].1) ∧ w.cell? ⟨g, off + k * 2 + 1, none⟩ = some (.slice l[k].2.1 l[k].2.2.1 l[k].2.2.2) := by
  rcases h with ⟨_, rfl⟩ | ⟨g, off, cap, cur, h1, h2, h3, h4, h5, h6⟩
  · exact absurd h0 (Nat.lt_irrefl _)
  · refine ⟨g, off, cap, h1, h2, lt_of_heap h3, h4, fun k hk => ?_⟩
    obtain ⟨a, b⟩ := rowG_get l k hk
    rw [cell_of h3, cell_of h3, Nat.add_assoc]
    exact ⟨h6 _ _ a, h6 _ _ b⟩
/-- Without its first two groups. -/
theorem Gr.drop2 {w : World} {base g off cap : Nat} {l : List Gv} {a b : Gv} (h : Gr w base (.slice (some ⟨g, off, none⟩) (l.length + 2) cap) (a :: b :: l)) : Gr w base (.slice (some ⟨g, off + 4, none⟩) l.length (cap - 2)) l := by
  rcases h with ⟨h, _⟩ | ⟨g', off', cap', cur, h1, h2, h3, h4, h5, h6⟩
  · cases h
  · simp only [Value.slice.injEq, Option.some.injEq, Addr.mk.injEq] at h1
    obtain ⟨⟨rfl, rfl, _⟩, _, rfl⟩ := h1
    simp only [List.length_cons] at h4
    refine Or.inr ⟨g, off + 4, cap - 2, cur, rfl, h2, h3, by omega, by omega, fun j u hu => ?_⟩
    have e : rowG (a :: b :: l) = rowG [a, b] ++ rowG l := rowG_append [a, b] l
    have := h6 (4 + j) u (by rw [e, List.getElem?_append_right (by rw [rowG_len]; show 2 * 2 ≤ _; omega), rowG_len]; simpa using hu)
    rwa [← Nat.add_assoc] at this
theorem set_heap {w : World} {g : Nat} {cur : Array Value} {e : TypeId} (h : w.heap[g]? = some (.cells cur e (0, 0))) : ∀ (vs : List Value) (o : Nat), ∃ cur', (w.setCells g o vs).heap[g]? = some (.cells cur' e (0, 0)) ∧ cur'.size = cur.size ∧ (∀ j, j < o ∨ o + vs.length ≤ j → cur'[j]? = cur[j]?) ∧ (∀ j, j < vs.length → o + j < cur.size → cur'[o + j]? = vs[j]?) := by
  intro vs
  induction vs generalizing w cur with
  | nil => exact fun o => ⟨cur, h, rfl, fun _ _ => rfl, fun j hj => absurd hj (Nat.not_lt_zero _)⟩
  | cons v vs ih =>
    intro o
    have h1 : (w.setCell ⟨g, o, none⟩ v).heap[g]? = some (.cells (cur.setIfInBounds o v) e (0, 0)) := by
      simp [World.setCell, h, Array.getElem?_modify]
    obtain ⟨cur', a1, a2, a3, a4⟩ := ih h1 (o + 1)
    refine ⟨cur', a1, by rw [a2]; simp, fun j hj => ?_, fun j hj hs => ?_⟩
    · rw [a3 j (by simp only [List.length_cons] at hj; omega), Array.getElem?_setIfInBounds]
      simp only [List.length_cons] at hj
      rw [if_neg (by omega)]
    · cases j with
      | zero =>
        rw [Nat.add_zero, a3 o (by omega), Array.getElem?_setIfInBounds, if_pos rfl]
        simp at hs ⊢
        exact hs
      | succ j =>
        have := a4 j (by simpa using hj) (by simpa [Nat.add_assoc, Nat.add_comm 1 j] using hs)
        rw [show o + 1 + j = o + (j + 1) by omega] at this
        rw [this]
        rfl
theorem set_frame (g : Nat) : ∀ (vs : List Value) (o : Nat) (w : World), (w.setCells g o vs).os = w.os ∧ (w.setCells g o vs).tape = w.tape ∧ (w.setCells g o vs).output = w.output ∧ (w.setCells g o vs).heap.size = w.heap.size
  | [], _, _ => ⟨rfl, rfl, rfl, rfl⟩
  | v :: vs, o, w => by
    obtain ⟨a, b, c, d⟩ := set_frame g vs (o + 1) (w.setCell ⟨g, o, none⟩ v)
    exact ⟨a, b, c, d.trans (by simp)⟩
theorem app_gr (w : World) (base : Nat) (v : Value) (l : List Gv) (z : Gv) (X : Nat) (hown : Gr w base v l) (hX : w.cell? ⟨X, 0, none⟩ = some (.int .i64 z.1)) (hX1 : w.cell? ⟨X, 1, none⟩ = some (.slice z.2.1 z.2.2.1 z.2.2.2)) (hn : l.length ≤ 5000) (hb : base ≤ w.heap.size) :
    ∃ v' w', (Builtin.append_ #[45, 45] 45 #[v, .slice (some ⟨X, 0, none⟩) 1 1]).run Tryd.prog w = .ok v' w' ∧ Gr w' base v' (l ++ [z]) ∧ w.grownBy w' (bk v) ∧ (bk v' = bk v ∨ bk v' = some w.heap.size) := by
  obtain ⟨i, hi, hz, h1, h2⟩ := infoG'
  have hnews : ∀ j u, (rowG [z])[j]? = some u → w.cell? ((⟨X, 0, none⟩ : Addr).add j) = some u := fun j u hu => by
    rcases j with _ | _ | j
    · simp [rowG] at hu; subst hu; simpa [Addr.add] using hX
    · simp [rowG] at hu; subst hu; simpa [Addr.add] using hX1
    · simp [rowG] at hu
  have hsrc : Src Tryd.prog i.size 45 (.slice (some ⟨X, 0, none⟩) 1 1) 1 (rowG [z]) w := Src.ofSlice w Tryd.underlying45 ⟨X, 0, none⟩ 1 1 (rowG [z]) (by rw [h1]; rfl) hnews (rowG_one _)
  have hgrow : ∀ (p : Option Addr) (n c : Nat), n = l.length → c < n + 1 → (Builtin.firstCells i.size n (.slice p n c)).run Tryd.prog w.drew = .ok (rowG l).toArray w.drew →
      ∃ v' w', (Builtin.append_ #[45, 45] 45 #[.slice p n c, .slice (some ⟨X, 0, none⟩) 1 1]).run Tryd.prog w = .ok v' w' ∧ Gr w' base v' (l ++ [z]) ∧ w.grownBy w' (bk (.slice p n c)) ∧ bk v' = some w.heap.size := by
    intro p n c hnl hc hold
    have hr := run_append_grow_src (P := Tryd.prog) w 45 45 45 49 i (.agg #[.int .i64 0, .slice none 0 0]) Tryd.underlying45 hi hz p n c (rowG l) hold _ 1 (rowG [z]) hsrc hc (by omega) (growslice_fits hc (by rw [h2]; omega))
    have hge := grownCap_ge w (n + 1) c 49
    refine ⟨_, _, hr, Or.inr ⟨w.heap.size, 0, grownCap w (n + 1) c 49, _, by simp [hnl], hb, heap_alloc_new w.drew _, by simp [← hnl]; exact hge, ?_, fun j u hu => ?_⟩, ⟨rfl, rfl, rfl, by simp, fun k hk _ => Below.heap_alloc w.drew _ k hk⟩, rfl⟩
    · simp only [Array.size_append, List.size_toArray, List.length_append, rowG_len, size_zeroCells, List.length_singleton]
      show 0 + _ ≤ l.length * 2 + 1 * 2 + _ * 2
      omega
    · rw [Nat.zero_add, ← rowG_append, Array.getElem?_append_left (by rw [List.size_toArray]; exact (List.getElem?_eq_some_iff.1 hu).1), List.getElem?_toArray]
      exact hu
  rcases hown with ⟨rfl, rfl⟩ | ⟨g, off, cap, cur, rfl, h3, h4, h5, h6, h7⟩
  · obtain ⟨v', w', a1, a2, a3, a4⟩ := hgrow none 0 0 rfl (by omega) (run_firstCells_none w.drew i.size 0 0 0)
    exact ⟨v', w', a1, a2, a3, Or.inr a4⟩
  · by_cases hroom : l.length + 1 ≤ cap
    · have hc : ∀ j, j < (rowG [z]).length → off + l.length * i.size + j < cur.size := fun j hj => by
        rw [rowG_len] at hj
        simp only [List.length_singleton] at hj
        rw [h1]
        omega
      have hr := run_append_room_src (P := Tryd.prog) w 45 45 45 49 i Tryd.underlying45 hi g off l.length cap _ 1 (rowG [z]) hsrc hroom
        (fun j hj => by rw [cell_of h4, Array.getElem?_eq_getElem (hc j hj)]; rfl) (fun j hj => by simp [World.frozen?, h4])
      rw [h1] at hr hc
      obtain ⟨cur', b1, b2, b3, b4⟩ := set_heap h4 (rowG [z]) (off + l.length * 2)
      refine ⟨_, _, hr, Or.inr ⟨g, off, cap, cur', by simp, h3, b1, by simpa using hroom, by rw [b2]; exact h6, fun j u hu => ?_⟩, ⟨(set_frame g _ _ w).1, (set_frame g _ _ w).2.1, (set_frame g _ _ w).2.2.1, Nat.le_of_eq (set_frame g _ _ w).2.2.2.symm, fun k hk hne => World.heap_setCells_other w g _ _ hk (fun e => hne (by rw [e]; rfl))⟩, Or.inl rfl⟩
      · rw [rowG_append] at hu
        by_cases hj : j < l.length * 2
        · rw [List.getElem?_append_left (by rw [rowG_len]; exact hj)] at hu
          rw [b3 _ (by omega)]
          exact h7 j u hu
        · rw [List.getElem?_append_right (by rw [rowG_len]; omega), rowG_len] at hu
          have hj2 : j - l.length * 2 < (rowG [z]).length := (List.getElem?_eq_some_iff.1 hu).1
          have := b4 (j - l.length * 2) hj2 (hc _ hj2)
          rw [show off + l.length * 2 + (j - l.length * 2) = off + j by omega] at this
          rw [this]
          exact hu
    · obtain ⟨v', w', a1, a2, a3, a4⟩ := hgrow (some ⟨g, off, none⟩) l.length cap rfl (by omega) (run_firstCells_some (P := Tryd.prog) w.drew i.size l.length ⟨g, off, none⟩ l.length cap (rowG l) (by rw [h1, rowG_len]) (fun j u hu => by rw [Addr.add_mid]; show w.cell? _ = _; rw [cell_of h4]; exact h7 j u hu))
      exact ⟨v', w', a1, a2, a3, Or.inr a4⟩
end Go.Proofs.YtkldnapbeebdkaaDoor.hf
