/- A text's bytes as ranks; what byBytes and alike of package suffix answer. -/
import Derived.Test.YtnhdaolieifhnaaGreatDoorFdV
import Derived.Test.YtnhdaolieifhnaaGreatDoorFdP
import Derived.Test.YtnhdaolieifhnaaGreatDoorSxQ
import Derived.BigQuiet
namespace Go.Proofs.YtnhdaolieifhnaaGreatDoor.sx
set_option linter.unusedVariables false
open Go.ChangeShapes Go.WideShapes Go.ChangeAt Go.RowKit
open mem rows fd

/-- The bytes of a text from 1 on, 0 behind its end. -/
def gs (s : ByteArray) (k : Nat) : Int := if k < s.size then sb s k + 1 else 0
theorem gs_tx (s : ByteArray) : Tx (gs s) s.size where
  pos k h := by unfold gs; rw [if_pos h]; have := sb_bd s k; omega
  zero k h := by unfold gs; rw [if_neg (by omega)]
theorem gs_at (s : ByteArray) (k : Nat) (h : k < s.size) : gs s k = sb s k + 1 := by unfold gs; rw [if_pos h]
/-- The first k of N are told, the others are 0. -/
def fil (h : Nat → Int) (N k : Nat) : List Int := (List.range N).map fun i => if i < k then h i else 0
def tab (h : Nat → Int) (N : Nat) : List Int := (List.range N).map h
theorem fil_len (h : Nat → Int) (N k : Nat) : (fil h N k).length = N := by simp [fil]
theorem tab_len (h : Nat → Int) (N : Nat) : (tab h N).length = N := by simp [tab]
theorem fil_zero (h : Nat → Int) (N : Nat) : fil h N 0 = List.replicate N 0 := by
  unfold fil
  simp only [Nat.not_lt_zero, if_false]
  rw [List.map_const', List.length_range]
theorem fil_all (h : Nat → Int) (N : Nat) : fil h N N = tab h N := by
  unfold fil tab
  exact List.map_congr_left fun k hk => by rw [if_pos (List.mem_range.1 hk)]
theorem fil_set (h : Nat → Int) (N k : Nat) : (fil h N k).set k (h k) = fil h N (k + 1) := by
  apply List.ext_getElem?
  intro j
  by_cases hj : j < N
  · by_cases e : k = j
    · subst e
      rw [List.getElem?_set_self (by rw [fil_len]; exact hj)]
      simp [fil, hj]
    · rw [List.getElem?_set_ne e]
      have e2 : (j < k) ↔ (j < k + 1) := by omega
      simp only [fil, List.getElem?_map, List.getElem?_range hj, Option.map_some, e2]
  · rw [List.getElem?_eq_none (by rw [List.length_set, fil_len]; omega), List.getElem?_eq_none (by rw [fil_len]; omega)]
theorem tab_at (h : Nat → Int) (N k : Nat) (hk : k < N) : (tab h N).getD k 0 = h k := by simp [tab, hk]
theorem tab_ints (N : Nat) : tab (fun i => (i : Int)) N = ints (List.range N) := rfl
theorem ints_at (l : List Nat) (k : Nat) : (ints l).getD k 0 = ((l.getD k 0 : Nat) : Int) := by
  by_cases h : k < l.length
  · simp [ints, h]
  · simp [ints, show l.length ≤ k by omega]
theorem rowI_other {w : World} {A B : Nat} {l : List Int} (h : RowI w B l) (hne : A ≠ B) (j : Nat) (v : Value) : RowI (w.setCell ⟨A, j, none⟩ v) B l := by
  unfold RowI at h ⊢
  simp [World.setCell, Array.getElem?_modify, h, hne]
set_option maxRecDepth 10000 in
theorem byBytes_at (s : ByteArray) (w : World) (hs : s.size ≤ 4000) :
    Calls Tryz.prog 16 #[.string s] w fun e w' => ∃ A B, e = .returned (.tuple #[.slice (some ⟨A, 0, none⟩) s.size s.size, .slice (some ⟨B, 0, none⟩) s.size s.size]) ∧ w.heap.size ≤ A ∧ A < B ∧
      RowI w' A (ints (List.range s.size)) ∧ RowI w' B (tab (gs s) s.size) ∧ Bl w w' := by
  have hmk := fun w => run_make_row' (P := Tryz.prog) 22 3 (.int .i64 0) 8 Tryz.underlying22 infoI rfl .i64 .i64 s.size (by omega) (by omega) w
  obtain ⟨A, hA⟩ : ∃ A, A = w.heap.size := ⟨_, rfl⟩
  obtain ⟨W, hW⟩ : ∃ W, W = (w.alloc (.cells (madeCells #[.int .i64 0] s.size) 3)).alloc (.cells (madeCells #[.int .i64 0] s.size) 3) := ⟨_, rfl⟩
  have h1 : RowI W A (fil (fun i => (i : Int)) s.size 0) := by rw [fil_zero, hW, hA]; exact (RowI.made w s.size).step ((Bl.refl _).alloc _)
  have h2 : RowI W (A + 1) (fil (gs s) s.size 0) := by
    rw [fil_zero, hW, hA]
    have := RowI.made (w.alloc (.cells (madeCells #[.int .i64 0] s.size) 3)) s.size
    simpa using this
  have hb : Bl w W := by rw [hW]; exact ((Bl.refl w).alloc _).alloc _
  have HW : Hid (W = (w.alloc (.cells (madeCells #[.int .i64 0] s.size) 3)).alloc (.cells (madeCells #[.int .i64 0] s.size) 3)) := hW
  have HA : Hid (A = w.heap.size) := hA
  have H : Hid (RowI W A (fil (fun i => (i : Int)) s.size 0) ∧ RowI W (A + 1) (fil (gs s) s.size 0) ∧ Bl w W) := ⟨h1, h2, hb⟩
  clear hW hA h1 h2 hb
  go_enter Tryz.func16, Tryz.ntmps16
  go_wp2
  rw [← HW.out, ← HA.out]
  go_loopw [13] (fun i wr => ∃ k : Nat, k ≤ s.size ∧ i = .int .i64 (k : Int) ∧ RowI wr A (fil (fun i => (i : Int)) s.size k) ∧ RowI wr (A + 1) (fil (gs s) s.size k) ∧ Bl w wr) (fun i _ => s.size - (intOf i).toNat)
  case atStart => exact ⟨0, Nat.zero_le _, rfl, H.out⟩
  case round =>
    obtain ⟨k, hk, rfl, hr1, hr2, hbl⟩ := hrel
    by_cases hlt : k < s.size
    · have hlz : (k : Int) < (s.size : Int) := by omega
      have hgk : (((s[k]'hlt).toNat : Nat) : Int) = sb s k := (sb_get s k hlt).symm
      have hbd := sb_bd s k
      have c1 := hr1.cell (j := k) (by rw [fil_len]; exact hlt)
      have f1 := hr1.frozen k
      have c2 := hr2.cell (j := k) (by rw [fil_len]; exact hlt)
      have f2 := hr2.frozen k
      have hr1' := hr1.set k (k : Int)
      rw [fil_set (fun i => (i : Int)) s.size k] at hr1'
      have hr2' := hr2.set k (sb s k + 1)
      rw [← gs_at s k hlt, fil_set] at hr2'
      rw [gs_at s k hlt] at hr2'
      have HR : Hid (RowI ((wr.setCell ⟨A, k, none⟩ (.int .i64 (k : Int))).setCell ⟨A + 1, k, none⟩ (.int .i64 (sb s k + 1))) A (fil (fun i => (i : Int)) s.size (k + 1)) ∧ RowI ((wr.setCell ⟨A, k, none⟩ (.int .i64 (k : Int))).setCell ⟨A + 1, k, none⟩ (.int .i64 (sb s k + 1))) (A + 1) (fil (gs s) s.size (k + 1))) := by
        refine ⟨rowI_other hr1' (by omega) _ _, ?_⟩
        have h := (rowI_other (A := A) hr2 (by omega) k (.int .i64 (k : Int))).set k (sb s k + 1)
        rw [← gs_at s k hlt, fil_set] at h
        rw [gs_at s k hlt] at h
        exact h
      have hB : Bl w ((wr.setCell ⟨A, k, none⟩ (.int .i64 (k : Int))).setCell ⟨A + 1, k, none⟩ (.int .i64 (sb s k + 1))) := (hbl.setCell (by rw [HA.out]; exact Nat.le_refl _) _).setCell (by rw [HA.out]; exact Nat.le_succ _) _
      generalize (fil (fun i => (i : Int)) s.size k).getD k 0 = z1 at c1
      generalize (fil (gs s) s.size k).getD k 0 = z2 at c2
      clear hr1 hr2 hr1' hr2'
      go_wp2
      go_roundw
      case rel => exact ⟨k + 1, hlt, by go_num, HR.out.1, HR.out.2, hB⟩
      case measure => simp [intOf]; omega
    · have hnl : ¬ ((k : Int) < (s.size : Int)) := by omega
      have HK : Hid (k = s.size) := by unfold Hid; omega
      go_wp2
      go_ret2
      rw [HK.out, fil_all] at hr1 hr2
      exact ⟨A, A + 1, rfl, by rw [HA.out]; exact Nat.le_refl _, Nat.lt_succ_self _, hr1, hr2, hbl⟩
/-- So many bytes two texts begin alike with. -/
def alF (a b : ByteArray) : Nat → Nat → Nat
  | 0, i => i
  | f + 1, i => if i < a.size ∧ i < b.size ∧ sb a i = sb b i then alF a b f (i + 1) else i
def alk (a b : ByteArray) : Nat := alF a b a.size 0
def IsAl (a b : ByteArray) (n : Nat) : Prop := n ≤ a.size ∧ n ≤ b.size ∧ (∀ t, t < n → sb a t = sb b t) ∧ (n < a.size → n < b.size → sb a n ≠ sb b n)
theorem alF_is (a b : ByteArray) (f i : Nat) (hf : a.size ≤ f + i) (h1 : i ≤ a.size) (h2 : i ≤ b.size) (h3 : ∀ t, t < i → sb a t = sb b t) : IsAl a b (alF a b f i) := by
  induction f generalizing i with
  | zero => exact ⟨h1, h2, h3, fun h => by simp only [alF] at h; omega⟩
  | succ f ih =>
    rw [alF]
    split
    · rename_i h
      refine ih (i + 1) (by omega) (by omega) (by omega) fun t ht => ?_
      rcases Nat.lt_or_ge t i with h' | h'
      · exact h3 t h'
      · obtain rfl : t = i := by omega
        exact h.2.2
    · rename_i h
      exact ⟨h1, h2, h3, fun a1 a2 a3 => h ⟨a1, a2, a3⟩⟩
theorem alk_is (a b : ByteArray) : IsAl a b (alk a b) := alF_is a b a.size 0 (by omega) (Nat.zero_le _) (Nat.zero_le _) fun t ht => absurd ht (Nat.not_lt_zero _)
theorem IsAl.same {a b : ByteArray} {n m : Nat} (h : IsAl a b n) (k : IsAl a b m) : n = m := by
  obtain ⟨h1, h2, h3, h4⟩ := h
  obtain ⟨k1, k2, k3, k4⟩ := k
  rcases Nat.lt_trichotomy n m with h | h | h
  · exact absurd (k3 n h) (h4 (by omega) (by omega))
  · exact h
  · exact absurd (h3 m h) (k4 (by omega) (by omega))
set_option maxRecDepth 10000 in
theorem alike_at (a b : ByteArray) (w : World) (ha : a.size ≤ 4000) (hb : b.size ≤ 4000) :
    Calls Tryz.prog 39 #[.string a, .string b] w fun e w' => e = .returned (.int .i64 ((alk a b : Nat) : Int)) ∧ Dr w w' := by
  have HA : Hid (∀ k, IsAl a b k → k = alk a b) := fun k h => h.same (alk_is a b)
  go_enter Tryz.func39, Tryz.ntmps39
  go_wp2
  go_loopw [5] (fun i wr => ∃ k : Nat, k ≤ a.size ∧ k ≤ b.size ∧ i = .int .i64 (k : Int) ∧ Hid (∀ t, t < k → sb a t = sb b t) ∧ Dr w wr) (fun i _ => a.size - (intOf i).toNat)
  case atStart => exact ⟨0, Nat.zero_le _, Nat.zero_le _, rfl, fun t ht => absurd ht (Nat.not_lt_zero _), Dr.refl _⟩
  case round =>
    obtain ⟨k, hka, hkb, rfl, HT, hd⟩ := hrel
    obtain ⟨q, rfl⟩ := hd
    generalize hwq : w.drewN q = wq
    have HW : Hid (w.drewN q = wq) := hwq
    clear hwq
    by_cases h1 : k < a.size
    · have d1 : decide ((k : Int) < (a.size : Int)) = true := decide_eq_true (by omega)
      by_cases h2 : k < b.size
      · have d2 : decide ((k : Int) < (b.size : Int)) = true := decide_eq_true (by omega)
        have e1 : (((a[k]'h1).toNat : Nat) : Int) = sb a k := (sb_get a k h1).symm
        have e2 : (((b[k]'h2).toNat : Nat) : Int) = sb b k := (sb_get b k h2).symm
        by_cases h3 : sb a k = sb b k
        · have d3 : (sb a k == sb b k) = true := by rw [beq_iff_eq]; exact h3
          have HT2 : Hid (∀ t, t < k + 1 → sb a t = sb b t) := fun t ht => by
            rcases Nat.lt_or_ge t k with h | h
            · exact HT.out t h
            · obtain rfl : t = k := by omega
              exact h3
          clear h3
          go_wp2
          go_quiet (fail)
          go_wp2
          go_roundw
          case rel => exact ⟨k + 1, h1, h2, by go_num, HT2, by rw [← HW.out]; exact Dr.drewN _ ⟨q, rfl⟩⟩
          case measure => simp [intOf]; omega
        · have d3 : (sb a k == sb b k) = false := by rw [beq_eq_false_iff_ne]; exact h3
          have H3 : Hid (sb a k ≠ sb b k) := h3
          clear h3
          go_wp2
          go_quiet (fail)
          go_wp2
          go_ret
          exact ⟨ret_int (by rw [HA.out k ⟨hka, hkb, HT.out, fun _ _ => H3.out⟩]), by rw [← HW.out]; exact Dr.drewN _ ⟨q, rfl⟩⟩
      · have d2 : decide ((k : Int) < (b.size : Int)) = false := decide_eq_false (by omega)
        go_wp2
        go_quiet (fail)
        go_wp2
        go_ret
        exact ⟨ret_int (by rw [HA.out k ⟨hka, hkb, HT.out, fun _ h => absurd h h2⟩]), by rw [← HW.out]; exact Dr.drewN _ ⟨q, rfl⟩⟩
    · have d1 : decide ((k : Int) < (a.size : Int)) = false := decide_eq_false (by omega)
      go_wp2
      go_quiet (fail)
      go_wp2
      go_ret
      exact ⟨ret_int (by rw [HA.out k ⟨hka, hkb, HT.out, fun h _ => absurd h h1⟩]), by rw [← HW.out]; exact Dr.drewN _ ⟨q, rfl⟩⟩
end Go.Proofs.YtnhdaolieifhnaaGreatDoor.sx
