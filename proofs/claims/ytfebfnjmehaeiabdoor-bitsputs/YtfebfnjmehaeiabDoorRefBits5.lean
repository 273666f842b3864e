/- What the document's own BitsPut answers. -/
import Derived.Test.YtfebfnjmehaeiabDoorRefBits4
namespace Go.Proofs.YtfebfnjmehaeiabDoor.bitw
open Go.ChangeShapes Go.WideShapes Go.ChangeAt Go.RowKit
open mem bit

/-- Block B of the world holds just these numbers of 64 bits (elements of type e), and may be written. -/
def Row64 (w : World) (e : TypeId) (B : Nat) (zs : List Int) : Prop := w.heap[B]? = some (.cells (zs.map (Value.int .u64)).toArray e (0, 0))
theorem Row64.cell {w : World} {e : TypeId} {B : Nat} {zs : List Int} (h : Row64 w e B zs) {j : Nat} (hj : j < zs.length) : w.cell? ⟨B, j, none⟩ = some (.int .u64 (zs.getD j 0)) := by
  unfold Row64 at h
  simp [World.cell?, h, hj]
theorem Row64.frozen {w : World} {e : TypeId} {B : Nat} {zs : List Int} (h : Row64 w e B zs) (j : Nat) : w.frozen? ⟨B, j, none⟩ = false := by
  unfold Row64 at h
  simp [World.frozen?, h]
theorem Row64.set {w : World} {e : TypeId} {B : Nat} {zs : List Int} (h : Row64 w e B zs) (j : Nat) (v : Int) : Row64 (w.setCell ⟨B, j, none⟩ (.int .u64 v)) e B (zs.set j v) := by
  unfold Row64 at h ⊢
  simp [World.setCell, Array.getElem?_modify, h]
theorem Row64.made (w : World) (e : TypeId) (n : Nat) : Row64 (w.alloc (.cells (madeCells #[.int .u64 0] n) e)) e w.heap.size (List.replicate n 0) := by
  have hl : madeCells #[Value.int .u64 0] n = ((List.replicate n (0 : Int)).map (Value.int .u64)).toArray := by
    apply Array.ext'
    rw [toList_madeCells_one]
    simp
  unfold Row64
  show (w.heap.push _)[w.heap.size]? = _
  rw [Array.getElem?_push, if_pos rfl, hl]
theorem Row64.gb {w w' : World} {e : TypeId} {B : Nat} {zs : List Int} (h : Row64 w e B zs) (g : Gb w w') : Row64 w' e B zs := by
  unfold Row64 at h ⊢
  have hB : B < w.heap.size := by
    rcases Nat.lt_or_ge B w.heap.size with hlt | hge
    · exact hlt
    · rw [Array.getElem?_eq_none hge] at h
      cases h
  rw [g.b.block B hB]
  exact h
/-- A number's low n bits, each at its place, as far as k of them are laid. -/
def wantL (V n : Nat) (o : Bool) (k : Nat) : List Int := (List.range n).map fun i => if pl n o i < k then (((V.testBit (pl n o i)).toNat : Nat) : Int) else 0
theorem wantL_len (V n : Nat) (o : Bool) (k : Nat) : (wantL V n o k).length = n := by simp [wantL]
theorem wantL_zero (V n : Nat) (o : Bool) : wantL V n o 0 = List.replicate n 0 := by simp [wantL, List.map_const']
theorem wantL_set (V n : Nat) (o : Bool) (k : Nat) (hk : k < n) : (wantL V n o k).set (pl n o k) (((V.testBit k).toNat : Nat) : Int) = wantL V n o (k + 1) := by
  apply List.ext_getElem
  · simp [wantL]
  · intro i h1 h2
    have hi : i < n := by simpa [wantL] using h1
    have hinv := pl_pl n o k hk
    rw [List.getElem_set]
    by_cases e : pl n o k = i
    · subst e
      simp [wantL, hinv]
    · have hne : pl n o i ≠ k := by
        intro h
        apply e
        rw [← h]
        exact pl_pl n o i hi
      rw [if_neg e]
      simp only [wantL, List.getElem_map, List.getElem_range]
      by_cases hlt : pl n o i < k
      · rw [if_pos hlt, if_pos (by omega)]
      · rw [if_neg hlt, if_neg (by omega)]
theorem wantL_get (V n : Nat) (o : Bool) (i : Nat) (hi : i < n) : (wantL V n o n).getD i 0 = (((V.testBit (pl n o i)).toNat : Nat) : Int) := by
  have := pl_lt n o i hi
  simp [wantL, List.getD_eq_getElem?_getD, hi, this]
theorem half (V k : Nat) : V / 2 ^ k / 2 = V / 2 ^ (k + 1) := by rw [Nat.pow_succ, Nat.div_div_eq_div_mul]
/-- Which bit comes as number k of a byte, the greatest first. -/
def from8 (o : Bool) (i k : Nat) : Nat := 8 * i + (if o then k else 7 - k)
theorem hb_from8 (g : Nat → Bool) (o : Bool) (i : Nat) : hb (fun k => g (from8 o i k)) 8 = nb (fun j => g (at8 o i j)) 8 := by
  rw [hb_nb]
  apply nb_congr
  intro j hj
  show g (from8 o i (8 - 1 - j)) = g (at8 o i j)
  congr 1
  unfold from8 at8
  cases o <;> simp <;> omega
theorem info64 : (Tryd.prog.info? 22).map (fun i => (i.zero, i.size, i.bytes)) = some (some (.int .u64 0), 1, 8) := by kernel_rfl
set_option maxHeartbeats 1000000 in
theorem refPut_any (s : ByteArray) (A n : Nat) (o : Bool) (O : Int) (V : Nat) (w : World) (hO : (if o then (1 : Int) else 0) = O) (hs : s.size ≤ 140737488351232) (hn : n ≤ 64) (hA : A + n ≤ 8 * s.size) (hV : V < 18446744073709551616) :
    Calls Tryd.prog 8 #[.string s, .int .i64 A, .int .i64 n, .int .i64 O, .int .u64 V] w fun e w' => e = .returned (.tuple #[.string (strOfNums (bytesOf (putG (fun k => tbit s o k) A n o V n) o s.size)), .int .i64 0]) ∧ Gb w w' := by
  have HO : Hid ((if o then (1 : Int) else 0) = O) := hO
  have HK : Hid (okO O) := by cases o <;> simp at hO <;> show _ ∨ _ <;> omega
  have HR : Hid (okR s A n) := ⟨by omega, by omega, by omega, by omega⟩
  have hmk := fun w => run_make_row' (P := Tryd.prog) 44 22 (.int .u64 0) 8 Tryd.underlying44 info64 rfl .i64 .i64 n (by omega) (by omega) w
  have hOb : (O == 0) = !o := by cases o <;> simp at hO <;> simp <;> omega
  have hOc : (O == 1) = o := by cases o <;> simp at hO <;> simp <;> omega
  clear hO
  go_enter Tryd.func8, Tryd.ntmps8
  go_wp2_with (go_at_call 10; refine (there_ok _ _ _ _ _ (by omega) HK.out HR.out).mono ?_; rintro e w1 ⟨rfl, rfl⟩)
  go_loopw [4, 14] (fun v i wr => ∃ k X : Nat, k ≤ n ∧ i = .int .i64 k ∧ v = .int .u64 (X : Int) ∧ Hid (X = V / 2 ^ k) ∧ Row64 wr 22 w1.heap.size (wantL V n o k) ∧ Gb w1 wr) (fun _ i _ => n - (intOf i).toNat)
  case atStart => exact ⟨0, V, Nat.zero_le _, rfl, rfl, (by simp : V = V / 2 ^ 0), by rw [wantL_zero]; exact Row64.made _ _ _, (Gb.refl _).alloc _ _⟩
  case round =>
    obtain ⟨k, X, hk, rfl, rfl, HX, hrow, hgb⟩ := hrel
    have hdv : X ≤ V := by rw [HX.out]; exact Nat.div_le_self _ _
    have HH : Hid (X / 2 = V / 2 ^ (k + 1)) := by show _ = _; rw [HX.out, half]
    have HD : Hid (((X : Int) % 2) = (((V.testBit k).toNat : Nat) : Int)) := by
      show _ = _
      rw [← bit_nat, ← HX.out]
      omega
    by_cases hlt : k < n
    · have hc := hrow.cell (j := pl n o k) (by rw [wantL_len]; exact pl_lt n o k hlt)
      have hf := hrow.frozen (pl n o k)
      cases o
      · have hc' : wr.cell? ⟨w1.heap.size, k, none⟩ = some (.int .u64 ((wantL V n false k).getD k 0)) := hc
        have hf' : wr.frozen? ⟨w1.heap.size, k, none⟩ = false := hf
        clear hc hf
        go_wp2
        go_roundw
        case rel => exact ⟨k + 1, X / 2, by omega, by go_num, by congr 1, HH, by rw [HD.out, ← wantL_set V n false k hlt]; exact hrow.set _ _, hgb.setCell (Nat.le_refl _) _⟩
        case measure => simp [intOf]; omega
      · have hc' : wr.cell? ⟨w1.heap.size, n - 1 - k, none⟩ = some (.int .u64 ((wantL V n true k).getD (n - 1 - k) 0)) := hc
        have hf' : wr.frozen? ⟨w1.heap.size, n - 1 - k, none⟩ = false := hf
        clear hc hf
        go_wp2
        go_roundw
        case rel => exact ⟨k + 1, X / 2, by omega, by go_num, by congr 1, HH, by rw [HD.out, ← wantL_set V n true k hlt]; exact hrow.set _ _, hgb.setCell (Nat.le_refl _) _⟩
        case measure => simp [intOf]; omega
    · obtain rfl : k = n := by omega
      clear hlt hk hdv HH HD
      go_wp2
      go_loopw [16, 17] (fun c i wr => ∃ m : Nat, m ≤ s.size ∧ i = .int .i64 m ∧ c = .string (strOfNums (bytesOf (putG (fun k => tbit s o k) A k o V k) o m)) ∧ Row64 wr 22 w1.heap.size (wantL V k o k) ∧ Gb w1 wr) (fun _ i _ => s.size - (intOf i).toNat)
      case atStart => exact ⟨0, Nat.zero_le _, rfl, rfl, hrow, hgb⟩
      case round =>
        clear hrow hgb
        obtain ⟨m, hm, rfl, rfl, hrow, hgb⟩ := hrel
        have hz := bytesOf_size (putG (fun k' => tbit s o k') A k o V k) o m
        by_cases hlt : m < s.size
        · have HBY : Hid (hb (fun q => putG (fun k' => tbit s o k') A k o V k (from8 o m q)) 8 = nb (fun j => putG (fun k' => tbit s o k') A k o V k (at8 o m j)) 8) := hb_from8 (putG (fun k' => tbit s o k') A k o V k) o m
          obtain ⟨wo, rfl⟩ : ∃ wo : World, wo = wr := ⟨_, rfl⟩
          go_wp2
          go_loop [18, 19] (fun b j => ∃ q : Nat, q ≤ 8 ∧ j = .int .i64 q ∧ b = .int .u64 (hb (fun q => putG (fun k' => tbit s o k') A k o V k (from8 o m q)) q : Nat)) (fun _ j => 8 - (intOf j).toNat)
          case atStart => exact ⟨0, by omega, rfl, rfl⟩
          case round =>
            obtain ⟨q, hq, rfl, rfl⟩ := hrel
            have hl := hb_lt (fun q => putG (fun k' => tbit s o k') A k o V k (from8 o m q)) q
            by_cases hl2 : q < 8
            · have h8 : hb (fun q => putG (fun k' => tbit s o k') A k o V k (from8 o m q)) q < 256 := Nat.lt_of_lt_of_le hl (Nat.pow_le_pow_right (by decide) hq)
              have hb1 : (putG (fun k' => tbit s o k') A k o V k (from8 o m q)).toNat ≤ 1 := Bool.toNat_le _
              clear hl
              cases o
              · have hJ : from8 false m q = 8 * m + 7 - q := by unfold from8; simp; omega
                by_cases hin : A ≤ 8 * m + 7 - q ∧ 8 * m + 7 - q < A + k
                · have hG : putG (fun k' => tbit s false k') A k false V k (from8 false m q) = V.testBit (pl k false (8 * m + 7 - q - A)) := by
                    rw [hJ]; unfold putG; rw [if_pos hin]
                  have hcl := hrow.cell (j := 8 * m + 7 - q - A) (by rw [wantL_len]; omega)
                  rw [wantL_get V k false (8 * m + 7 - q - A) (by omega), ← hG] at hcl
                  have HIN : Hid ((A : Int) ≤ 8 * (m : Int) + 7 - (q : Int) ∧ 8 * (m : Int) + 7 - (q : Int) ≤ (A : Int) + (k : Int) - 1) := by show _ ∧ _; omega
                  have HJ : Hid (8 * (m : Int) + 7 - (q : Int) = ((8 * m + 7 - q : Nat) : Int)) := by show _ = _; omega
                  obtain ⟨hin1, hin2⟩ := hin
                  clear hG hJ
                  go_wp2_with (first | (go_at_call 11; refine (bitAt_at _ _ (8 * m + 7 - q) false _ _ HJ.out (by omega) (by omega) HO.out).mono ?_; rintro e w2 ⟨rfl, rfl⟩) | (go_at_call 16; refine (within_yes _ _ _ _ HIN.out).mono ?_; rintro e w3 ⟨rfl, rfl⟩))
                  go_round
                  case rel => exact ⟨q + 1, by omega, by go_num, by show _ = Value.int .u64 ((hb (fun q => putG (fun k' => tbit s false k') A k false V k (from8 false m q)) q * 2 + (putG (fun k' => tbit s false k') A k false V k (from8 false m q)).toNat : Nat) : Int); congr 1⟩
                  case measure => simp [intOf]; omega
                · have hG : tbit s false (8 * m + 7 - q) = putG (fun k' => tbit s false k') A k false V k (from8 false m q) := by
                    rw [hJ]; unfold putG; rw [if_neg hin]
                  have HIN : Hid (¬ ((A : Int) ≤ 8 * (m : Int) + 7 - (q : Int) ∧ 8 * (m : Int) + 7 - (q : Int) ≤ (A : Int) + (k : Int) - 1)) := by show ¬ _; omega
                  have HJ : Hid (8 * (m : Int) + 7 - (q : Int) = ((8 * m + 7 - q : Nat) : Int)) := by show _ = _; omega
                  have HBT : Hid (∀ w, Calls Tryd.prog 11 #[.string s, .int .i64 (8 * (m : Int) + 7 - (q : Int)), .int .i64 O] w fun e w' => e = .returned (.int .u64 ((putG (fun k' => tbit s false k') A k false V k (from8 false m q)).toNat : Nat)) ∧ w' = w) := fun w => by
                    have hb := bitAt_at s _ (8 * m + 7 - q) false O w HJ.out (by omega) (by omega) HO.out
                    rw [hG] at hb
                    exact hb
                  clear hG hJ hin
                  go_wp2_with (first | (go_at_call 11; refine (HBT.out _).mono ?_; rintro e w2 ⟨rfl, rfl⟩) | (go_at_call 16; refine (within_no _ _ _ _ HIN.out).mono ?_; rintro e w3 ⟨rfl, rfl⟩))
                  go_round
                  case rel => exact ⟨q + 1, by omega, by go_num, by show _ = Value.int .u64 ((hb (fun q => putG (fun k' => tbit s false k') A k false V k (from8 false m q)) q * 2 + (putG (fun k' => tbit s false k') A k false V k (from8 false m q)).toNat : Nat) : Int); congr 1⟩
                  case measure => simp [intOf]; omega
              · have hJ : from8 true m q = 8 * m + q := by unfold from8; simp
                by_cases hin : A ≤ 8 * m + q ∧ 8 * m + q < A + k
                · have hG : putG (fun k' => tbit s true k') A k true V k (from8 true m q) = V.testBit (pl k true (8 * m + q - A)) := by
                    rw [hJ]; unfold putG; rw [if_pos hin]
                  have hcl := hrow.cell (j := 8 * m + q - A) (by rw [wantL_len]; omega)
                  rw [wantL_get V k true (8 * m + q - A) (by omega), ← hG] at hcl
                  have HIN : Hid ((A : Int) ≤ 8 * (m : Int) + (q : Int) ∧ 8 * (m : Int) + (q : Int) ≤ (A : Int) + (k : Int) - 1) := by show _ ∧ _; omega
                  have HJ : Hid (8 * (m : Int) + (q : Int) = ((8 * m + q : Nat) : Int)) := by show _ = _; omega
                  obtain ⟨hin1, hin2⟩ := hin
                  clear hG hJ
                  go_wp2_with (first | (go_at_call 11; refine (bitAt_at _ _ (8 * m + q) true _ _ HJ.out (by omega) (by omega) HO.out).mono ?_; rintro e w2 ⟨rfl, rfl⟩) | (go_at_call 16; refine (within_yes _ _ _ _ HIN.out).mono ?_; rintro e w3 ⟨rfl, rfl⟩))
                  go_round
                  case rel => exact ⟨q + 1, by omega, by go_num, by show _ = Value.int .u64 ((hb (fun q => putG (fun k' => tbit s true k') A k true V k (from8 true m q)) q * 2 + (putG (fun k' => tbit s true k') A k true V k (from8 true m q)).toNat : Nat) : Int); congr 1⟩
                  case measure => simp [intOf]; omega
                · have hG : tbit s true (8 * m + q) = putG (fun k' => tbit s true k') A k true V k (from8 true m q) := by
                    rw [hJ]; unfold putG; rw [if_neg hin]
                  have HIN : Hid (¬ ((A : Int) ≤ 8 * (m : Int) + (q : Int) ∧ 8 * (m : Int) + (q : Int) ≤ (A : Int) + (k : Int) - 1)) := by show ¬ _; omega
                  have HJ : Hid (8 * (m : Int) + (q : Int) = ((8 * m + q : Nat) : Int)) := by show _ = _; omega
                  have HBT : Hid (∀ w, Calls Tryd.prog 11 #[.string s, .int .i64 (8 * (m : Int) + (q : Int)), .int .i64 O] w fun e w' => e = .returned (.int .u64 ((putG (fun k' => tbit s true k') A k true V k (from8 true m q)).toNat : Nat)) ∧ w' = w) := fun w => by
                    have hb := bitAt_at s _ (8 * m + q) true O w HJ.out (by omega) (by omega) HO.out
                    rw [hG] at hb
                    exact hb
                  clear hG hJ hin
                  go_wp2_with (first | (go_at_call 11; refine (HBT.out _).mono ?_; rintro e w2 ⟨rfl, rfl⟩) | (go_at_call 16; refine (within_no _ _ _ _ HIN.out).mono ?_; rintro e w3 ⟨rfl, rfl⟩))
                  go_round
                  case rel => exact ⟨q + 1, by omega, by go_num, by show _ = Value.int .u64 ((hb (fun q => putG (fun k' => tbit s true k') A k true V k (from8 true m q)) q * 2 + (putG (fun k' => tbit s true k') A k true V k (from8 true m q)).toNat : Nat) : Int); congr 1⟩
                  case measure => simp [intOf]; omega
            · obtain rfl : q = 8 := by omega
              have h8 : hb (fun q => putG (fun k' => tbit s o k') A k o V k (from8 o m q)) 8 < 256 := hl
              have hz1 : (strOfNums [((hb (fun q => putG (fun k' => tbit s o k') A k o V k (from8 o m q)) 8 : Nat) : Int)]).size = 1 := rfl
              clear hl
              go_wp2_with (go_at_call 17; refine (char_any _ _ (by omega)).mono ?_; rintro e w2 ⟨rfl, hg2⟩)
              go_roundw
              case rel => exact ⟨m + 1, by omega, by go_num, by rw [HBY.out, bytesOf_succ], hrow.gb hg2, hgb.trans hg2⟩
              case measure => simp [intOf]; omega
        · obtain rfl : m = s.size := by omega
          go_wp2
          go_ret2
          exact ⟨rfl, hgb⟩
end Go.Proofs.YtfebfnjmehaeiabDoor.bitw
