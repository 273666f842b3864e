/- The document's DiffBack. -/
import Derived.Test.YtoiiphkcpdphbaaDoorDfR1
import Derived.Test.YtoiiphkcpdphbaaDoorDfG
namespace Go.Proofs.YtoiiphkcpdphbaaDoor.df
set_option linter.unusedVariables false
open Go.ChangeShapes Go.WideShapes Go.ChangeAt Go.RowKit
open mem
/-- What the document's answers. -/
def RbAns (w w' : World) (a : List UInt8) (l : List Ed) (r : Value) : Prop := Bl w w' ∧ ((fitE a.length 0 l = 0 ∧ ∃ u, r = .tuple #[u, .int .i64 0] ∧ ed.Own w' w.heap.size u (bckE a l)) ∨ (fitE a.length 0 l ≠ 0 ∧ r = .tuple #[.slice none 0 0, .int .i64 (eN (fitE a.length 0 l))]))
theorem eN_ne {r : Int} (h : r ≠ 0) : eN r ≠ 0 := by unfold eN; split <;> omega
set_option maxHeartbeats 1000000 in
set_option maxRecDepth 10000 in
theorem refBack_at (a : ByteArray) (l : List Ed) (v : Value) (w : World) (hv : ed.View w v l) (ha : a.size ≤ 5000) (hl : Short l) :
    Calls Tryd.prog 14 #[.string a, v] w fun e w' => ∃ r, e = .returned r ∧ RbAns w w' (L a) l r := by
  have cF := refApply_at a l v w hv ha hl
  obtain ⟨pp, cp, rfl, hcp, hin⟩ := hv
  have hlen := hl.1
  have HI : Hid (ed.In w pp l) := hin
  clear hin
  by_cases h0 : fitE (L a).length 0 l = 0
  · have hans : raAns (L a) l = .tuple #[.string (tx (outE (L a) l)), .int .i64 0] := by unfold raAns; rw [if_pos h0]
    rw [hans] at cF
    have HR : Hid (fitE (L a).length 0 l = 0) := h0
    have HP0 : Hid (Bk (L a) l 0 ((L a).drop 0) []) := Bk.zero h0
    clear hans h0
    go_enter Tryd.func14, Tryd.ntmps14
    go_wp2_with fail
    refine cF.mono ?_
    rintro e w5 ⟨rfl, hb5⟩
    clear cF
    have H6 : Hid (ed.In w5 pp l) := HI.out.step hb5
    have HB : Hid (Bl w w5) := hb5
    clear hb5 HI
    go_wp2
    go_loopw [8, 9, 11, 12, 24, 35, 45] (fun bv av _ _ iv _ _ wr => ∃ (k at' : Nat) (d : List Ed), k ≤ l.length ∧ at' ≤ a.size ∧ iv = .int .i64 (k : Int) ∧ av = .int .i64 (at' : Int) ∧ Hid (Bk (L a) l k ((L a).drop at') d ∧ ed.Own wr w5.heap.size bv d ∧ Bl w5 wr)) (fun _ _ _ _ iv _ _ _ => l.length - (intOf iv).toNat)
    case atStart => exact ⟨0, 0, [], Nat.zero_le _, Nat.zero_le _, rfl, rfl, HP0.out, ed.Own.nil _ _, Bl.refl _⟩
    case round =>
      clear HP0
      obtain ⟨k, at', d, hk, hat, rfl, rfl, H⟩ := hrel
      by_cases hlt : k < l.length
      · have hlz : (k : Int) < (l.length : Int) := by omega
        obtain ⟨x, rfl, c0, c1, c2⟩ := (H6.out.step H.out.2.2).at' k hlt
        obtain ⟨n, hn, hst⟩ := H.out.1.step hlt
        have htl := hl.get k hlt
        have hdl : d.length ≤ 5000 := by have := H.out.1.2.2.1; omega
        obtain ⟨E, hE⟩ : ∃ E, E = l[k] := ⟨_, rfl⟩
        rw [← hE] at c0 c1 c2 hn hst htl
        rw [hn] at c1
        rw [List.length_drop, L_len, List.drop_drop] at hst
        clear hE hn
        rcases hst with ⟨hw, hnr, hA⟩ | ⟨hw, hnr, hA⟩ | ⟨hw, hA⟩
        · rw [hw] at c0
          have HA : Hid (Bk (L a) l (k + 1) ((L a).drop (at' + n)) (d ++ [⟨1, n, []⟩])) := hA
          clear hA
          obtain ⟨w7, hw7⟩ : ∃ w7, w7 = (wr.alloc (.cells #[.int .i64 1, .int .i64 (n : Int), .string (tx E.t)] 38)).alloc (.cells #[.int .i64 1, .int .i64 (n : Int), .string ⟨#[]⟩] 38) := ⟨_, rfl⟩
          obtain ⟨w8, hw8⟩ : ∃ w8, w8 = w7.alloc (.cells #[.int .i64 1, .int .i64 (n : Int), .string ⟨#[]⟩] 38) := ⟨_, rfl⟩
          obtain ⟨Z, hZ⟩ : ∃ Z, Z = wr.heap.size + 1 + 1 := ⟨_, rfl⟩
          have hb8 : Bl wr w8 := by rw [hw8, hw7]; exact (((Bl.refl _).alloc _).trans ((Bl.refl _).alloc _)).trans ((Bl.refl _).alloc _)
          have hz8 : w8.heap[Z]? = some (.cells #[.int .i64 1, .int .i64 (n : Int), .string ⟨#[]⟩] 38 (0, 0)) := by
            have := heap_alloc_new w7 (.cells #[.int .i64 1, .int .i64 (n : Int), .string ⟨#[]⟩] 38)
            rw [hw8, show Z = w7.heap.size by rw [hZ, hw7]; simp]
            exact this
          obtain ⟨v9, w9, hr, ho9, hg9⟩ := ed.app_one w8 w5.heap.size u8 d ⟨1, n, []⟩ Z (H.out.2.1.step hb8) (by rw [cell_of hz8]; rfl) (by rw [cell_of hz8]; rfl) (by rw [cell_of hz8]; rfl) (by omega) (Nat.le_trans H.out.2.2.size hb8.size)
          have HW9 : Hid (ed.Own w9 w5.heap.size v9 (d ++ [⟨1, n, []⟩]) ∧ Bl w5 w9) := ⟨ho9, bl_grown (H.out.2.2.trans hb8) hg9 (fun x e => (H.out.2.1.block x e).1)⟩
          have ew8 : ((wr.alloc (.cells #[.int .i64 1, .int .i64 (n : Int), .string (tx E.t)] 38)).alloc (.cells #[.int .i64 1, .int .i64 (n : Int), .string ⟨#[]⟩] 38)).alloc (.cells #[.int .i64 1, .int .i64 (n : Int), .string ⟨#[]⟩] 38) = w8 := by rw [hw8, hw7]
          have eZ : wr.heap.size + 1 + 1 = Z := hZ.symm
          have HRr : Hid _ := hr
          clear hw7 hw8 hZ hb8 hz8 hr ho9 hg9 hw
          go_wp2_with (at_builtin; refine Lib.wpList_append_run _ rfl (.tmp 58) (.tmp 60) _ _ rfl _ _ rfl rfl _ _ HRr.out ?_)
          go_roundw
          case rel => exact ⟨k + 1, at' + n, _, hlt, by omega, by go_num, by go_num, HA.out, HW9.out⟩
          case measure => simp [intOf]; omega
        · rw [hw] at c0
          obtain ⟨to, hto'⟩ : ∃ to, to = at' + n := ⟨_, rfl⟩
          have hto : (at' : Int) + (n : Int) = (to : Int) := by omega
          have h1 : at' ≤ to := by omega
          have h2 : to ≤ a.size := by omega
          have et : ((L a).drop at').take n = ((L a).take to).drop at' := by rw [hto', List.drop_take, show at' + n - at' = n by omega]
          rw [et, ← hto'] at hA
          have ext := ext_tx a at' to
          have HA : Hid (Bk (L a) l (k + 1) ((L a).drop to) (d ++ [⟨3, 0, ((L a).take to).drop at'⟩])) := hA
          clear hA et hto'
          generalize ((L a).take to).drop at' = t1 at ext HA
          obtain ⟨w7, hw7⟩ : ∃ w7, w7 = (wr.alloc (.cells #[.int .i64 2, .int .i64 (n : Int), .string (tx E.t)] 38)).alloc (.cells #[.int .i64 3, .int .i64 0, .string (tx t1)] 38) := ⟨_, rfl⟩
          obtain ⟨w8, hw8⟩ : ∃ w8, w8 = w7.alloc (.cells #[.int .i64 3, .int .i64 0, .string (tx t1)] 38) := ⟨_, rfl⟩
          obtain ⟨Z, hZ⟩ : ∃ Z, Z = wr.heap.size + 1 + 1 := ⟨_, rfl⟩
          have hb8 : Bl wr w8 := by rw [hw8, hw7]; exact (((Bl.refl _).alloc _).trans ((Bl.refl _).alloc _)).trans ((Bl.refl _).alloc _)
          have hz8 : w8.heap[Z]? = some (.cells #[.int .i64 3, .int .i64 0, .string (tx t1)] 38 (0, 0)) := by
            have := heap_alloc_new w7 (.cells #[.int .i64 3, .int .i64 0, .string (tx t1)] 38)
            rw [hw8, show Z = w7.heap.size by rw [hZ, hw7]; simp]
            exact this
          obtain ⟨v9, w9, hr, ho9, hg9⟩ := ed.app_one w8 w5.heap.size u8 d ⟨3, 0, t1⟩ Z (H.out.2.1.step hb8) (by rw [cell_of hz8]; rfl) (by rw [cell_of hz8]; rfl) (by rw [cell_of hz8]; rfl) (by omega) (Nat.le_trans H.out.2.2.size hb8.size)
          have HW9 : Hid (ed.Own w9 w5.heap.size v9 (d ++ [⟨3, 0, t1⟩]) ∧ Bl w5 w9) := ⟨ho9, bl_grown (H.out.2.2.trans hb8) hg9 (fun x e => (H.out.2.1.block x e).1)⟩
          have ew8 : ((wr.alloc (.cells #[.int .i64 2, .int .i64 (n : Int), .string (tx E.t)] 38)).alloc (.cells #[.int .i64 3, .int .i64 0, .string (tx t1)] 38)).alloc (.cells #[.int .i64 3, .int .i64 0, .string (tx t1)] 38) = w8 := by rw [hw8, hw7]
          have eZ : wr.heap.size + 1 + 1 = Z := hZ.symm
          have HRr : Hid _ := hr
          clear hw7 hw8 hZ hb8 hz8 hr ho9 hg9 hw
          go_wp2_with (at_builtin; refine Lib.wpList_append_run _ rfl (.tmp 58) (.tmp 60) _ _ rfl _ _ rfl rfl _ _ HRr.out ?_)
          go_roundw
          case rel => exact ⟨k + 1, to, _, hlt, by omega, by go_num, by go_num, HA.out, HW9.out⟩
          case measure => simp [intOf]; omega
        · rw [hw] at c0
          have hts : (tx E.t).size = E.t.length := tx_size _
          have HA : Hid (Bk (L a) l (k + 1) ((L a).drop at') (d ++ [⟨2, E.t.length, []⟩])) := hA
          clear hA
          obtain ⟨w7, hw7⟩ : ∃ w7, w7 = (wr.alloc (.cells #[.int .i64 3, .int .i64 (n : Int), .string (tx E.t)] 38)).alloc (.cells #[.int .i64 2, .int .i64 (E.t.length : Int), .string ⟨#[]⟩] 38) := ⟨_, rfl⟩
          obtain ⟨w8, hw8⟩ : ∃ w8, w8 = w7.alloc (.cells #[.int .i64 2, .int .i64 (E.t.length : Int), .string ⟨#[]⟩] 38) := ⟨_, rfl⟩
          obtain ⟨Z, hZ⟩ : ∃ Z, Z = wr.heap.size + 1 + 1 := ⟨_, rfl⟩
          have hb8 : Bl wr w8 := by rw [hw8, hw7]; exact (((Bl.refl _).alloc _).trans ((Bl.refl _).alloc _)).trans ((Bl.refl _).alloc _)
          have hz8 : w8.heap[Z]? = some (.cells #[.int .i64 2, .int .i64 (E.t.length : Int), .string ⟨#[]⟩] 38 (0, 0)) := by
            have := heap_alloc_new w7 (.cells #[.int .i64 2, .int .i64 (E.t.length : Int), .string ⟨#[]⟩] 38)
            rw [hw8, show Z = w7.heap.size by rw [hZ, hw7]; simp]
            exact this
          obtain ⟨v9, w9, hr, ho9, hg9⟩ := ed.app_one w8 w5.heap.size u8 d ⟨2, E.t.length, []⟩ Z (H.out.2.1.step hb8) (by rw [cell_of hz8]; rfl) (by rw [cell_of hz8]; rfl) (by rw [cell_of hz8]; rfl) (by omega) (Nat.le_trans H.out.2.2.size hb8.size)
          have HW9 : Hid (ed.Own w9 w5.heap.size v9 (d ++ [⟨2, E.t.length, []⟩]) ∧ Bl w5 w9) := ⟨ho9, bl_grown (H.out.2.2.trans hb8) hg9 (fun x e => (H.out.2.1.block x e).1)⟩
          have ew8 : ((wr.alloc (.cells #[.int .i64 3, .int .i64 (n : Int), .string (tx E.t)] 38)).alloc (.cells #[.int .i64 2, .int .i64 (E.t.length : Int), .string ⟨#[]⟩] 38)).alloc (.cells #[.int .i64 2, .int .i64 (E.t.length : Int), .string ⟨#[]⟩] 38) = w8 := by rw [hw8, hw7]
          have eZ : wr.heap.size + 1 + 1 = Z := hZ.symm
          have HRr : Hid _ := hr
          clear hw7 hw8 hZ hb8 hz8 hr ho9 hg9 hw
          go_wp2_with (at_builtin; refine Lib.wpList_append_run _ rfl (.tmp 58) (.tmp 60) _ _ rfl _ _ rfl rfl _ _ HRr.out ?_)
          go_roundw
          case rel => exact ⟨k + 1, at', _, hlt, hat, by go_num, rfl, HA.out, HW9.out⟩
          case measure => simp [intOf]; omega
      · obtain rfl : k = l.length := by omega
        have hend : d = bckE (L a) l := by
          have := H.out.1.1
          rw [List.drop_of_length_le (Nat.le_refl _)] at this
          simpa [bckE] using this.symm
        have HF : Hid (RbAns w wr (L a) l (.tuple #[u8, .int .i64 0])) := ⟨HB.out.trans H.out.2.2, Or.inl ⟨HR.out, u8, rfl, by rw [← hend]; exact H.out.2.1.low HB.out.size⟩⟩
        clear hend
        go_wp2
        go_ret2
        exact ⟨_, rfl, HF.out⟩
  · have hans : raAns (L a) l = .tuple #[.string ⟨#[]⟩, .int .i64 (eN (fitE (L a).length 0 l))] := by unfold raAns; rw [if_neg h0]
    rw [hans] at cF
    have hne := eN_ne h0
    have HF : Hid (∀ w', Bl w w' → RbAns w w' (L a) l (.tuple #[.slice none 0 0, .int .i64 (eN (fitE (L a).length 0 l))])) := fun w' hb => ⟨hb, Or.inr ⟨h0, rfl⟩⟩
    clear hans h0
    generalize eN (fitE (L a).length 0 l) = z at cF hne HF
    have hzb : (z != 0) = true := by simp [hne]
    go_enter Tryd.func14, Tryd.ntmps14
    go_wp2_with fail
    refine cF.mono ?_
    rintro e w5 ⟨rfl, hb5⟩
    clear cF
    go_wp2
    go_ret2
    exact ⟨_, rfl, HF.out _ hb5⟩
end Go.Proofs.YtoiiphkcpdphbaaDoor.df
