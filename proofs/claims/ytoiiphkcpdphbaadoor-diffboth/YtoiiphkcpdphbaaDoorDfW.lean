/- The document's DiffEdits. -/
import Derived.Test.YtoiiphkcpdphbaaDoorDfU
import Derived.Deep.RegionHeld3
namespace Go.Proofs.YtoiiphkcpdphbaaDoor.df
set_option linter.unusedVariables false
open Go.ChangeShapes Go.WideShapes Go.ChangeAt Go.RowKit
open mem
theorem ext_t (s : ByteArray) (i j : Nat) : s.extract i j = tx (((L s).take j).drop i) := by rw [← L_ext, tx_L]
theorem st_small (a b : List UInt8) : ∀ e ∈ st a b, 0 ≤ e.n ∧ e.n ≤ 5000 ∧ e.t.length ≤ 5000 := by
  fun_induction st a b with
  | case1 => intro e he; cases he
  | case2 y ys ih => intro e he; rcases List.mem_cons.1 he with rfl | he; · simp
                     exact ih e he
  | case3 x xs ih => intro e he; rcases List.mem_cons.1 he with rfl | he; · simp
                     exact ih e he
  | case4 xs y ys ih => intro e he; rcases List.mem_cons.1 he with rfl | he; · simp
                        exact ih e he
  | case5 x xs y ys h1 h2 ih => intro e he; rcases List.mem_cons.1 he with rfl | he; · simp
                                exact ih e he
  | case6 x xs y ys h1 h2 ih => intro e he; rcases List.mem_cons.1 he with rfl | he; · simp
                                exact ih e he
set_option maxHeartbeats 2000000 in
set_option maxRecDepth 10000 in
theorem refEdits_at (a b : ByteArray) (w : World) (hab : a.size + b.size ≤ 4000) :
    Calls Tryd.prog 8 #[.string a, .string b] w fun e w' => ∃ v, e = .returned (.tuple #[v, .int .i64 0]) ∧ ed.Own w' w.heap.size v (edits (L a) (L b)) ∧ Bl w w' := by
  have hnl : ¬ 4000 < (a.size : Int) + (b.size : Int) := by omega
  obtain ⟨N, hN⟩ : ∃ N, a.size + 1 = N := ⟨_, rfl⟩
  obtain ⟨M, hM⟩ : ∃ M, b.size + 1 = M := ⟨_, rfl⟩
  have HNM : Hid (a.size + 1 = N ∧ b.size + 1 = M) := ⟨hN, hM⟩
  have cC := common_at a b w hab
  rw [hN] at cC
  clear hN hM
  go_enter Tryd.func8, Tryd.ntmps8
  go_wp2_with fail
  refine cC.mono ?_
  rintro e w1 ⟨T, rfl, hW, hb1⟩
  have HW : Hid (Whole w1 T a b ∧ Bl w w1) := ⟨hW, hb1⟩
  clear hW hb1 cC
  go_wp2
  go_loopw [7, 8, 9, 44, 72] (fun v iv jv _ _ wr => ∃ (I J : Nat) (lst : List Ed), I ≤ a.size ∧ J ≤ b.size ∧ iv = .int .i64 (I : Int) ∧ jv = .int .i64 (J : Int) ∧ Hid (Rs a b I J lst ∧ ed.Own wr w1.heap.size v lst ∧ Bl w1 wr)) (fun _ iv jv _ _ _ => a.size + b.size - ((intOf iv).toNat + (intOf jv).toNat))
  case atStart => exact ⟨0, 0, [], Nat.zero_le _, Nat.zero_le _, rfl, rfl, ⟨by simp, Nat.zero_le _, Nat.zero_le _⟩, ed.Own.nil _ _, Bl.refl _⟩
  case round =>
    obtain ⟨I, J, lst, hI, hJ, rfl, rfl, H⟩ := hrel
    have hll := H.out.1.len
    obtain ⟨G, g1, g2⟩ := (HW.out.1.step H.out.2.2).get
    by_cases hi : I < a.size
    · have di : decide ((I : Int) < (a.size : Int)) = true := decide_eq_true (by omega)
      by_cases hj : J < b.size
      · have dj : decide ((J : Int) < (b.size : Int)) = true := decide_eq_true (by omega)
        have djn : ((J : Int) == (b.size : Int)) = false := by rw [beq_eq_false_iff_ne]; omega
        have e1 : (((a[I]'hi).toNat : Nat) : Int) = sb a I := (sb_get a I hi).symm
        have e2 : (((b[J]'hj).toNat : Nat) : Int) = sb b J := (sb_get b J hj).symm
        by_cases h3 : sb a I = sb b J
        · have d3 : (sb a I == sb b J) = true := by rw [beq_iff_eq]; exact h3
          have HA : Hid (Rs a b (I + 1) (J + 1) (lst ++ [⟨1, 1, []⟩])) := H.out.1.keep hi hj h3
          clear h3 g1 g2
          go_wp2
          go_quiet (fail)
          generalize hwq : wr.drewN _ = wq
          have hbq : Bl wr wq := by rw [← hwq]; exact Dr.bl ⟨_, rfl⟩
          clear hwq
          obtain ⟨Z, hZ⟩ : ∃ Z, Z = wq.heap.size := ⟨_, rfl⟩
          obtain ⟨w7, hw7⟩ : ∃ w7, w7 = wq.alloc (.cells #[.int .i64 1, .int .i64 1, .string ⟨#[]⟩] 38) := ⟨_, rfl⟩
          have hb7 : Bl wr w7 := by rw [hw7]; exact hbq.trans ((Bl.refl _).alloc _)
          have hzw : w7.heap[Z]? = some (.cells #[.int .i64 1, .int .i64 1, .string ⟨#[]⟩] 38 (0, 0)) := by rw [hw7, hZ]; exact heap_alloc_new wq _
          obtain ⟨v', w8, hr, ho8, hg8⟩ := ed.app_one w7 w1.heap.size u7 lst ⟨1, 1, []⟩ Z (H.out.2.1.step hb7) (by rw [cell_of hzw]; rfl) (by rw [cell_of hzw]; rfl) (by rw [cell_of hzw]; rfl) (by omega) (Nat.le_trans H.out.2.2.size hb7.size)
          have hb8 : Bl w1 w8 := bl_grown (H.out.2.2.trans hb7) hg8 (fun k e => (H.out.2.1.block k e).1)
          have eZ : wq.heap.size = Z := hZ.symm
          have ew7 : wq.alloc (.cells #[.int .i64 1, .int .i64 1, .string ⟨#[]⟩] 38) = w7 := hw7.symm
          have HR : Hid _ := hr
          have HF : Hid (ed.Own w8 w1.heap.size v' (lst ++ [⟨1, 1, []⟩]) ∧ Bl w1 w8) := ⟨ho8, hb8⟩
          clear hZ hw7 hbq hb7 hzw hr ho8 hg8 hb8
          go_wp2_with (at_builtin; refine Lib.wpList_append_run _ rfl (.tmp 64) (.tmp 66) _ _ rfl _ _ rfl rfl _ _ HR.out ?_)
          go_roundw
          case rel => exact ⟨I + 1, J + 1, _, hi, hj, by go_num, by go_num, HA.out, HF.out⟩
          case measure => simp [intOf]; omega
        · have d3 : (sb a I == sb b J) = false := by rw [beq_eq_false_iff_ne]; exact h3
          obtain ⟨I1, hI1⟩ : ∃ I1, I1 = I + 1 := ⟨_, rfl⟩
          have eI1 : (I : Int) + 1 = (I1 : Int) := by omega
          have p0 := g1 I hI
          have p1 := g1 I1 (by omega)
          rw [HNM.out.2] at p0 p1
          have c0 := g2 I J hI hJ
          have c1 := g2 I1 J (by omega) hJ
          have bI : I < N := by have := HNM.out; omega
          have bI1 : I1 < N := by have := HNM.out; omega
          have bJ : J < M := by have := HNM.out; omega
          by_cases hk : kp a b I1 J = kp a b I J
          · have HA : Hid (Rs a b (I + 1) J (lst ++ [⟨2, 1, []⟩])) := H.out.1.take hi (Or.inr ⟨h3, hj, by rw [← hI1]; exact hk⟩)
            rw [hk] at c1
            clear h3 g1 g2 hk hI1
            generalize kp a b I J = k0 at c0 c1
            generalize G I = gi at *
            generalize G I1 = gj at *
            go_wp2
            go_quiet (fail)
            go_wp2
            go_quiet (fail)
            generalize hwq : (wr.drewN _).drewN _ = wq
            have hbq : Bl wr wq := by rw [← hwq]; exact (Dr.bl ⟨_, rfl⟩).trans (Dr.bl ⟨_, rfl⟩)
            clear hwq
            obtain ⟨Z, hZ⟩ : ∃ Z, Z = wq.heap.size := ⟨_, rfl⟩
            obtain ⟨w7, hw7⟩ : ∃ w7, w7 = wq.alloc (.cells #[.int .i64 2, .int .i64 1, .string ⟨#[]⟩] 38) := ⟨_, rfl⟩
            have hb7 : Bl wr w7 := by rw [hw7]; exact hbq.trans ((Bl.refl _).alloc _)
            have hzw : w7.heap[Z]? = some (.cells #[.int .i64 2, .int .i64 1, .string ⟨#[]⟩] 38 (0, 0)) := by rw [hw7, hZ]; exact heap_alloc_new wq _
            obtain ⟨v', w8, hr, ho8, hg8⟩ := ed.app_one w7 w1.heap.size u7 lst ⟨2, 1, []⟩ Z (H.out.2.1.step hb7) (by rw [cell_of hzw]; rfl) (by rw [cell_of hzw]; rfl) (by rw [cell_of hzw]; rfl) (by omega) (Nat.le_trans H.out.2.2.size hb7.size)
            have hb8 : Bl w1 w8 := bl_grown (H.out.2.2.trans hb7) hg8 (fun k e => (H.out.2.1.block k e).1)
            have eZ : wq.heap.size = Z := hZ.symm
            have ew7 : wq.alloc (.cells #[.int .i64 2, .int .i64 1, .string ⟨#[]⟩] 38) = w7 := hw7.symm
            have HR : Hid _ := hr
            have HF : Hid (ed.Own w8 w1.heap.size v' (lst ++ [⟨2, 1, []⟩]) ∧ Bl w1 w8) := ⟨ho8, hb8⟩
            clear hZ hw7 hbq hb7 hzw hr ho8 hg8 hb8
            go_wp2_with (at_builtin; refine Lib.wpList_append_run _ rfl (.tmp 101) (.tmp 103) _ _ rfl _ _ rfl rfl _ _ HR.out ?_)
            go_roundw
            case rel => exact ⟨I + 1, J, _, hi, hJ, by go_num, by go_num, HA.out, HF.out⟩
            case measure => simp [intOf]; omega
          · have hkb : ((kp a b I1 J : Int) == (kp a b I J : Int)) = false := by rw [beq_eq_false_iff_ne]; omega
            have HA' := H.out.1.give hj (Or.inr ⟨h3, hi, by rw [← hI1]; exact hk⟩)
            obtain ⟨J1, hJ1⟩ : ∃ J1, J1 = J + 1 := ⟨_, rfl⟩
            have eJ1 : (J : Int) + 1 = (J1 : Int) := by omega
            have hJ1b : J1 ≤ b.size := by omega
            have hJJ : J ≤ J1 := by omega
            rw [← hJ1] at HA'
            have ext := ext_t b J J1
            have HA : Hid (Rs a b I J1 (lst ++ [⟨3, 0, ((L b).take J1).drop J⟩])) := HA'
            have hJ1n : J1 = J + 1 := hJ1
            clear HA' hJ1
            generalize ((L b).take J1).drop J = t1 at ext HA
            have HJ1 : Hid (J1 = J + 1) := hJ1n
            clear hJ1n
            clear h3 g1 g2 hk hI1
            generalize kp a b I J = k0 at c0 hkb
            generalize kp a b I1 J = k1 at c1 hkb
            generalize G I = gi at *
            generalize G I1 = gj at *
            go_wp2
            go_quiet (fail)
            go_wp2
            go_quiet (fail)
            generalize hwq : (wr.drewN _).drewN _ = wq
            have hbq : Bl wr wq := by rw [← hwq]; exact (Dr.bl ⟨_, rfl⟩).trans (Dr.bl ⟨_, rfl⟩)
            clear hwq
            obtain ⟨Z, hZ⟩ : ∃ Z, Z = wq.heap.size := ⟨_, rfl⟩
            obtain ⟨w7, hw7⟩ : ∃ w7, w7 = wq.alloc (.cells #[.int .i64 3, .int .i64 0, .string (tx t1)] 38) := ⟨_, rfl⟩
            have hb7 : Bl wr w7 := by rw [hw7]; exact hbq.trans ((Bl.refl _).alloc _)
            have hzw : w7.heap[Z]? = some (.cells #[.int .i64 3, .int .i64 0, .string (tx t1)] 38 (0, 0)) := by rw [hw7, hZ]; exact heap_alloc_new wq _
            obtain ⟨v', w8, hr, ho8, hg8⟩ := ed.app_one w7 w1.heap.size u7 lst ⟨3, 0, t1⟩ Z (H.out.2.1.step hb7) (by rw [cell_of hzw]; rfl) (by rw [cell_of hzw]; rfl) (by rw [cell_of hzw]; rfl) (by omega) (Nat.le_trans H.out.2.2.size hb7.size)
            have hb8 : Bl w1 w8 := bl_grown (H.out.2.2.trans hb7) hg8 (fun k e => (H.out.2.1.block k e).1)
            have eZ : wq.heap.size = Z := hZ.symm
            have ew7 : wq.alloc (.cells #[.int .i64 3, .int .i64 0, .string (tx t1)] 38) = w7 := hw7.symm
            have HR : Hid _ := hr
            have HF : Hid (ed.Own w8 w1.heap.size v' (lst ++ [⟨3, 0, t1⟩]) ∧ Bl w1 w8) := ⟨ho8, hb8⟩
            clear hZ hw7 hbq hb7 hzw hr ho8 hg8 hb8
            go_wp2_with (at_builtin; refine Lib.wpList_append_run _ rfl (.tmp 33) (.tmp 40) _ _ rfl _ _ rfl rfl _ _ HR.out ?_)
            go_roundw
            case rel => exact ⟨I, J1, _, hI, hJ1b, by go_num, by go_num, HA.out, HF.out⟩
            case measure => have := HJ1.out; simp [intOf]; omega
      · have dj : decide ((J : Int) < (b.size : Int)) = false := decide_eq_false (by omega)
        have djn : ((J : Int) == (b.size : Int)) = true := by rw [beq_iff_eq]; omega
        have HA : Hid (Rs a b (I + 1) J (lst ++ [⟨2, 1, []⟩])) := H.out.1.take hi (Or.inl (by omega))
        clear g1 g2
        go_wp2
        go_quiet (fail)
        go_wp2
        go_quiet (fail)
        generalize hwq : (wr.drewN _).drewN _ = wq
        have hbq : Bl wr wq := by rw [← hwq]; exact (Dr.bl ⟨_, rfl⟩).trans (Dr.bl ⟨_, rfl⟩)
        clear hwq
        obtain ⟨Z, hZ⟩ : ∃ Z, Z = wq.heap.size := ⟨_, rfl⟩
        obtain ⟨w7, hw7⟩ : ∃ w7, w7 = wq.alloc (.cells #[.int .i64 2, .int .i64 1, .string ⟨#[]⟩] 38) := ⟨_, rfl⟩
        have hb7 : Bl wr w7 := by rw [hw7]; exact hbq.trans ((Bl.refl _).alloc _)
        have hzw : w7.heap[Z]? = some (.cells #[.int .i64 2, .int .i64 1, .string ⟨#[]⟩] 38 (0, 0)) := by rw [hw7, hZ]; exact heap_alloc_new wq _
        obtain ⟨v', w8, hr, ho8, hg8⟩ := ed.app_one w7 w1.heap.size u7 lst ⟨2, 1, []⟩ Z (H.out.2.1.step hb7) (by rw [cell_of hzw]; rfl) (by rw [cell_of hzw]; rfl) (by rw [cell_of hzw]; rfl) (by omega) (Nat.le_trans H.out.2.2.size hb7.size)
        have hb8 : Bl w1 w8 := bl_grown (H.out.2.2.trans hb7) hg8 (fun k e => (H.out.2.1.block k e).1)
        have eZ : wq.heap.size = Z := hZ.symm
        have ew7 : wq.alloc (.cells #[.int .i64 2, .int .i64 1, .string ⟨#[]⟩] 38) = w7 := hw7.symm
        have HR : Hid _ := hr
        have HF : Hid (ed.Own w8 w1.heap.size v' (lst ++ [⟨2, 1, []⟩]) ∧ Bl w1 w8) := ⟨ho8, hb8⟩
        clear hZ hw7 hbq hb7 hzw hr ho8 hg8 hb8
        go_wp2_with (at_builtin; refine Lib.wpList_append_run _ rfl (.tmp 101) (.tmp 103) _ _ rfl _ _ rfl rfl _ _ HR.out ?_)
        go_roundw
        case rel => exact ⟨I + 1, J, _, hi, hJ, by go_num, by go_num, HA.out, HF.out⟩
        case measure => simp [intOf]; omega
    · have di : decide ((I : Int) < (a.size : Int)) = false := decide_eq_false (by omega)
      by_cases hj : J < b.size
      · have dj : decide ((J : Int) < (b.size : Int)) = true := decide_eq_true (by omega)
        have djn : ((J : Int) == (b.size : Int)) = false := by rw [beq_eq_false_iff_ne]; omega
        have HA' := H.out.1.give hj (Or.inl (by omega))
        obtain ⟨J1, hJ1⟩ : ∃ J1, J1 = J + 1 := ⟨_, rfl⟩
        have eJ1 : (J : Int) + 1 = (J1 : Int) := by omega
        have hJ1b : J1 ≤ b.size := by omega
        have hJJ : J ≤ J1 := by omega
        rw [← hJ1] at HA'
        have ext := ext_t b J J1
        have HA : Hid (Rs a b I J1 (lst ++ [⟨3, 0, ((L b).take J1).drop J⟩])) := HA'
        have hJ1n : J1 = J + 1 := hJ1
        clear HA' hJ1
        generalize ((L b).take J1).drop J = t1 at ext HA
        have HJ1 : Hid (J1 = J + 1) := hJ1n
        clear hJ1n
        clear g1 g2
        go_wp2
        go_quiet (fail)
        go_wp2
        go_quiet (fail)
        generalize hwq : (wr.drewN _).drewN _ = wq
        have hbq : Bl wr wq := by rw [← hwq]; exact (Dr.bl ⟨_, rfl⟩).trans (Dr.bl ⟨_, rfl⟩)
        clear hwq
        obtain ⟨Z, hZ⟩ : ∃ Z, Z = wq.heap.size := ⟨_, rfl⟩
        obtain ⟨w7, hw7⟩ : ∃ w7, w7 = wq.alloc (.cells #[.int .i64 3, .int .i64 0, .string (tx t1)] 38) := ⟨_, rfl⟩
        have hb7 : Bl wr w7 := by rw [hw7]; exact hbq.trans ((Bl.refl _).alloc _)
        have hzw : w7.heap[Z]? = some (.cells #[.int .i64 3, .int .i64 0, .string (tx t1)] 38 (0, 0)) := by rw [hw7, hZ]; exact heap_alloc_new wq _
        obtain ⟨v', w8, hr, ho8, hg8⟩ := ed.app_one w7 w1.heap.size u7 lst ⟨3, 0, t1⟩ Z (H.out.2.1.step hb7) (by rw [cell_of hzw]; rfl) (by rw [cell_of hzw]; rfl) (by rw [cell_of hzw]; rfl) (by omega) (Nat.le_trans H.out.2.2.size hb7.size)
        have hb8 : Bl w1 w8 := bl_grown (H.out.2.2.trans hb7) hg8 (fun k e => (H.out.2.1.block k e).1)
        have eZ : wq.heap.size = Z := hZ.symm
        have ew7 : wq.alloc (.cells #[.int .i64 3, .int .i64 0, .string (tx t1)] 38) = w7 := hw7.symm
        have HR : Hid _ := hr
        have HF : Hid (ed.Own w8 w1.heap.size v' (lst ++ [⟨3, 0, t1⟩]) ∧ Bl w1 w8) := ⟨ho8, hb8⟩
        clear hZ hw7 hbq hb7 hzw hr ho8 hg8 hb8
        go_wp2_with (at_builtin; refine Lib.wpList_append_run _ rfl (.tmp 33) (.tmp 40) _ _ rfl _ _ rfl rfl _ _ HR.out ?_)
        go_roundw
        case rel => exact ⟨I, J1, _, hI, hJ1b, by go_num, by go_num, HA.out, HF.out⟩
        case measure => have := HJ1.out; simp [intOf]; omega
      · have dj : decide ((J : Int) < (b.size : Int)) = false := decide_eq_false (by omega)
        have hlst : lst = st (L a) (L b) := by
          have h1 := H.out.1.1
          obtain rfl : I = a.size := by omega
          obtain rfl : J = b.size := by omega
          rw [sf_end, List.append_nil] at h1
          exact h1
        have hsm : ∀ k, (hk : k < lst.length) → 0 ≤ lst[k].n ∧ lst[k].n ≤ 5000 ∧ lst[k].t.length ≤ 5000 := fun k hk => by
          have := st_small (L a) (L b) lst[k] (by rw [← hlst]; exact List.getElem_mem hk)
          exact this
        have HSM : Hid (∀ k, (hk : k < lst.length) → 0 ≤ lst[k].n ∧ lst[k].n ≤ 5000 ∧ lst[k].t.length ≤ 5000) := hsm
        have HLS : Hid (lst = st (L a) (L b)) := hlst
        have hlb : lst.length ≤ 4000 := by omega
        obtain ⟨p, cp, hu7, hcp, hin⟩ := H.out.2.1.view
        subst hu7
        rename World => w3
        have HI : Hid (ed.In w3 p lst ∧ Bl w w3) := ⟨hin, HW.out.2.trans H.out.2.2⟩
        clear hsm hlst hin H hll g1 g2
        go_wp2
        go_loopw [10, 12, 13, 109] (fun ov _ _ iv wr => ∃ (k : Nat) (d : List Ed) (c : Option Ed), k ≤ lst.length ∧ iv = .int .i64 (k : Int) ∧ Hid (Gp lst k d c ∧ ed.Own wr w3.heap.size ov (d ++ c.toList) ∧ Bl w3 wr)) (fun _ _ _ iv _ => lst.length - (intOf iv).toNat)
        case atStart => exact ⟨0, [], none, Nat.zero_le _, rfl, Gp.zero _, ed.Own.nil _ _, Bl.refl _⟩
        case round =>
          obtain ⟨k, d, c, hk, rfl, H⟩ := hrel
          by_cases hlt : k < lst.length
          · have hlz : (k : Int) < (lst.length : Int) := by omega
            obtain ⟨x, rfl, c0, c1, c2⟩ := (HI.out.1.step H.out.2.2).at' k hlt
            have hs := HSM.out k hlt
            have hdl : d.length ≤ 4000 := by have := H.out.1.2.1; rw [List.length_append] at this; omega
            obtain ⟨E, hE⟩ : ∃ E, E = lst[k] := ⟨_, rfl⟩
            rw [← hE] at c0 c1 c2
            have HE : Hid (E = lst[k] ∧ 0 ≤ E.n ∧ E.n ≤ 5000 ∧ E.t.length ≤ 5000) := ⟨hE, by rw [hE]; exact hs⟩
            obtain ⟨P, hP⟩ : ∃ P, P = wr.heap.size := ⟨_, rfl⟩
            obtain ⟨w7, hw7⟩ : ∃ w7, w7 = wr.alloc (.cells #[.int .i64 E.w, .int .i64 E.n, .string (tx E.t)] 38) := ⟨_, rfl⟩
            have hb7 : Bl wr w7 := by rw [hw7]; exact (Bl.refl _).alloc _
            have hp7 : w7.heap[P]? = some (.cells #[.int .i64 E.w, .int .i64 E.n, .string (tx E.t)] 38 (0, 0)) := by rw [hw7, hP]; exact heap_alloc_new wr _
            have eP : wr.heap.size = P := hP.symm
            have ew7 : wr.alloc (.cells #[.int .i64 E.w, .int .i64 E.n, .string (tx E.t)] 38) = w7 := hw7.symm
            have p0 : w7.cell? ⟨P, 0, none⟩ = some (.int .i64 E.w) := by rw [cell_of hp7]; rfl
            have p1 : w7.cell? ⟨P, 1, none⟩ = some (.int .i64 E.n) := by rw [cell_of hp7]; rfl
            have p2 : w7.cell? ⟨P, 2, none⟩ = some (.string (tx E.t)) := by rw [cell_of hp7]; rfl
            have HO7 : Hid (ed.Own w7 w3.heap.size u10 (d ++ c.toList) ∧ Bl w3 w7) := ⟨H.out.2.1.step hb7, H.out.2.2.trans hb7⟩
            have HPb : Hid (w7.heap[P]? = some (.cells #[.int .i64 E.w, .int .i64 E.n, .string (tx E.t)] 38 (0, 0)) ∧ ∀ g, u10.ownBlock = some g → g ≠ P) := ⟨hp7, fun g hg e => by have := (H.out.2.1.block g hg).2; omega⟩
            clear hE hP hw7 hb7 hp7 hs
            cases c with
            | none =>
              have hd : d = [] := H.out.1.2.2.1 rfl
              subst hd
              have HC : Hid (Gp lst (k + 1) [] (some E)) := by
                have := H.out.1.first hlt (HSM.out k hlt)
                rw [← HE.out.1] at this
                exact this
              obtain ⟨q, cq, hu10, hcq, _⟩ := HO7.out.1.view
              simp only [Option.toList, List.append_nil, List.length_nil] at hu10
              subst hu10
              have hm1 : ¬ (0 : Int) ≤ -1 := by omega
              clear H
              go_wp2
              go_quiet (fail)
              generalize hwq : w7.drewN _ = wq
              have hbq : Bl w7 wq := by rw [← hwq]; exact Dr.bl ⟨_, rfl⟩
              clear hwq
              have P0 : wq.cell? ⟨P, 0, none⟩ = some (.int .i64 E.w) := at_bl hbq p0
              have P1 : wq.cell? ⟨P, 1, none⟩ = some (.int .i64 E.n) := at_bl hbq p1
              have P2 : wq.cell? ⟨P, 2, none⟩ = some (.string (tx E.t)) := at_bl hbq p2
              obtain ⟨Z, hZ⟩ : ∃ Z, Z = wq.heap.size := ⟨_, rfl⟩
              obtain ⟨w8, hw8⟩ : ∃ w8, w8 = wq.alloc (.cells #[.int .i64 E.w, .int .i64 E.n, .string (tx E.t)] 38) := ⟨_, rfl⟩
              have hb8 : Bl w7 w8 := by rw [hw8]; exact hbq.trans ((Bl.refl _).alloc _)
              have hz8 : w8.heap[Z]? = some (.cells #[.int .i64 E.w, .int .i64 E.n, .string (tx E.t)] 38 (0, 0)) := by rw [hw8, hZ]; exact heap_alloc_new wq _
              obtain ⟨v9, w9, hr, ho9, hg9⟩ := ed.app_one w8 w3.heap.size (.slice q 0 cq) [] E Z (HO7.out.1.step hb8) (by rw [cell_of hz8]; rfl) (by rw [cell_of hz8]; rfl) (by rw [cell_of hz8]; rfl) (by omega) (Nat.le_trans HO7.out.2.size hb8.size)
              have hb9 : Bl w3 w9 := bl_grown (HO7.out.2.trans hb8) hg9 (fun k e => (HO7.out.1.block k e).1)
              have eZ : wq.heap.size = Z := hZ.symm
              have ew8 : wq.alloc (.cells #[.int .i64 E.w, .int .i64 E.n, .string (tx E.t)] 38) = w8 := hw8.symm
              have HR : Hid _ := hr
              have HF : Hid (ed.Own w9 w3.heap.size v9 ([] ++ [E]) ∧ Bl w3 w9) := ⟨ho9, hb9⟩
              clear hZ hw8 hbq hb8 hz8 hr ho9 hg9 hb9 p0 p1 p2
              go_wp2_with (at_builtin; refine Lib.wpList_append_run _ rfl (.tmp 148) (.tmp 150) _ _ rfl _ _ rfl rfl _ _ HR.out ?_)
              go_roundw
              case rel => exact ⟨k + 1, [], some E, hlt, by go_num, HC.out, by simpa using HF.out.1, HF.out.2⟩
              case measure => simp [intOf]; omega
            | some X =>
              obtain ⟨b1, b2, b3⟩ := H.out.1.2.2.2 X rfl
              have hXn : X.n ≤ 25000000 := by omega
              have hXt : (tx X.t).size ≤ 25000000 := by rw [tx_size]; omega
              have hEt : (tx E.t).size ≤ 5000 := by rw [tx_size]; exact HE.out.2.2.2
              have hEn : 0 ≤ E.n ∧ E.n ≤ 5000 := ⟨HE.out.2.1, HE.out.2.2.1⟩
              have hdx : (d ++ [X]).length ≤ 5000 := by simp; omega
              obtain ⟨g, cap, hu10⟩ : ∃ g cap, u10 = .slice (some ⟨g, 0, none⟩) (d.length + 1) cap := by
                rcases HO7.out.1.shape with ⟨_, h2⟩ | ⟨g, cap, h1, _⟩
                · simp at h2
                · exact ⟨g, cap, by rw [h1]; simp⟩
              subst hu10
              have hgP : g ≠ P := HPb.out.2 g rfl
              obtain ⟨M1, hM1⟩ : ∃ M1, d.length + 1 = M1 := ⟨_, rfl⟩
              obtain ⟨D, hD⟩ : ∃ D, d.length = D := ⟨_, rfl⟩
              have eM : (M1 : Int) - 1 = (D : Int) := by omega
              have hDM : D < M1 := by omega
              have hDz : 0 ≤ (D : Int) := by omega
              have hDb : D ≤ 5000 := by omega
              have HO8 : Hid (ed.Own w7 w3.heap.size (.slice (some ⟨g, 0, none⟩) (d ++ [X]).length cap) (d ++ [X]) ∧ Bl w3 w7) := by
                have := HO7.out
                rw [show d.length + 1 = (d ++ [X]).length by simp] at this
                exact this
              obtain ⟨r0, r1, r2⟩ := ed.rowE_last d X
              rcases HO8.out.1.shape with ⟨hz, _⟩ | ⟨g', cap', hz, hbg, hgl, hcap, _, hfz, hcell⟩
              · cases hz
              simp only [Value.slice.injEq, Option.some.injEq, Addr.mk.injEq] at hz
              obtain ⟨⟨rfl, _, _⟩, _, rfl⟩ := hz
              have k0 := hcell _ _ r0
              have k1 := hcell _ _ r1
              have k2 := hcell _ _ r2
              have f1 := hfz (D * 3 + 1)
              have f2 := hfz (D * 3 + 2)
              rw [hD] at k0 k1 k2
              have HDD : Hid (d.length = D ∧ d.length + 1 = M1) := ⟨hD, hM1⟩
              have HBG : Hid (w3.heap.size ≤ g ∧ Bl w3 w7) := ⟨hbg, HO7.out.2⟩
              rw [hM1] at HO7 ⊢
              clear hcell hfz hgl hcap r0 r1 r2 hM1 hD hbg
              by_cases hw : X.w = E.w
              · have hwb : (X.w == E.w) = true := by rw [beq_iff_eq]; exact hw
                have HC : Hid (Gp lst (k + 1) d (some ⟨X.w, X.n + E.n, X.t ++ E.t⟩)) := by
                  have := H.out.1.same hlt (HSM.out k hlt) (by rw [← HE.out.1]; exact hw)
                  rw [← HE.out.1] at this
                  exact this
                clear H hw
                go_wp2
                go_quiet (fail)
                generalize hwq : w7.drewN _ = wq
                have hbq : Bl w7 wq := by rw [← hwq]; exact Dr.bl ⟨_, rfl⟩
                have HO9 : Hid (ed.Own wq w3.heap.size (.slice (some ⟨g, 0, none⟩) (d ++ [X]).length cap) (d ++ [X]) ∧ Bl w3 wq ∧ wq.heap[P]? = some (.cells #[.int .i64 E.w, .int .i64 E.n, .string (tx E.t)] 38 (0, 0))) := ⟨HO8.out.1.step hbq, HO8.out.2.trans hbq, (Below.block hbq P (lt_of_heap HPb.out.1)).trans HPb.out.1⟩
                replace k1 := at_bl hbq k1
                replace p1 := at_bl hbq p1
                have F1 : wq.frozen? ⟨g, D * 3 + 1, none⟩ = false := by
                  obtain ⟨cur, hc⟩ := HO9.out.1.kind
                  simp [World.frozen?, hc]
                clear hwq hbq f1 f2 k0 k2 p0 p2
                go_wp2
                go_region
                generalize hwr : (wq.setCell ⟨g, D * 3 + 1, none⟩ (.int .i64 (X.n + E.n))).drew = ws
                have HO10 : Hid (ed.Own ws w3.heap.size (.slice (some ⟨g, 0, none⟩) (d ++ [(⟨X.w, X.n + E.n, X.t⟩ : Ed)]).length cap) (d ++ [⟨X.w, X.n + E.n, X.t⟩]) ∧ Bl w3 ws ∧ ws.heap[P]? = some (.cells #[.int .i64 E.w, .int .i64 E.n, .string (tx E.t)] 38 (0, 0))) := by
                  have h1 := HO9.out.1.set (l' := d ++ [⟨X.w, X.n + E.n, X.t⟩]) (by simp) (ed.rowE_last_n d X (X.n + E.n))
                  rw [HDD.out.1] at h1
                  have hbd : Bl (wq.setCell ⟨g, D * 3 + 1, none⟩ (.int .i64 (X.n + E.n))) ws := by rw [← hwr]; exact Bl.drew (Bl.refl _)
                  have hP2 : (wq.setCell ⟨g, D * 3 + 1, none⟩ (.int .i64 (X.n + E.n))).heap[P]? = some (.cells #[.int .i64 E.w, .int .i64 E.n, .string (tx E.t)] 38 (0, 0)) := by
                    have := HO9.out.2.2
                    simp [World.setCell, Array.getElem?_modify, hgP, this]
                  exact ⟨h1.step hbd, (HO9.out.2.1.setCell (a := ⟨g, D * 3 + 1, none⟩) HBG.out.1 _).trans hbd, (Below.block hbd P (lt_of_heap hP2)).trans hP2⟩
                have s2 : ws.cell? ⟨g, D * 3 + 2, none⟩ = some (.string (tx X.t)) := by
                  obtain ⟨_, _, r2⟩ := ed.rowE_last d ⟨X.w, X.n + E.n, X.t⟩
                  rcases HO10.out.1.shape with ⟨hz, _⟩ | ⟨g', cap', hz, _, _, _, _, _, hcell⟩
                  · cases hz
                  · simp only [Value.slice.injEq, Option.some.injEq, Addr.mk.injEq] at hz
                    obtain ⟨⟨rfl, _, _⟩, _, rfl⟩ := hz
                    have := hcell _ _ r2
                    rw [HDD.out.1] at this
                    exact this
                have t2 : ws.cell? ⟨P, 2, none⟩ = some (.string (tx E.t)) := by rw [cell_of HO10.out.2.2]; rfl
                have F2 : ws.frozen? ⟨g, D * 3 + 2, none⟩ = false := by
                  obtain ⟨cur, hc⟩ := HO10.out.1.kind
                  simp [World.frozen?, hc]
                have hcat : tx X.t ++ tx E.t = tx (X.t ++ E.t) := tx_app _ _
                have HF : Hid (ed.Own (ws.setCell ⟨g, D * 3 + 2, none⟩ (.string (tx (X.t ++ E.t)))).drew w3.heap.size (.slice (some ⟨g, 0, none⟩) M1 cap) (d ++ [⟨X.w, X.n + E.n, X.t ++ E.t⟩]) ∧ Bl w3 (ws.setCell ⟨g, D * 3 + 2, none⟩ (.string (tx (X.t ++ E.t)))).drew) := by
                  have h1 := HO10.out.1.set (l' := d ++ [⟨X.w, X.n + E.n, X.t ++ E.t⟩]) (by simp) (ed.rowE_last_t d ⟨X.w, X.n + E.n, X.t⟩ (X.t ++ E.t))
                  rw [HDD.out.1] at h1
                  refine ⟨?_, (HO10.out.2.1.setCell (a := ⟨g, D * 3 + 2, none⟩) HBG.out.1 _).trans (Bl.drew (Bl.refl _))⟩
                  rw [show M1 = (d ++ [(⟨X.w, X.n + E.n, X.t ++ E.t⟩ : Ed)]).length by simp; have := HDD.out; omega]
                  exact h1.step (Bl.drew (Bl.refl _))
                clear hwr k1 p1 F1 HO9 HO8 HO7
                go_wp2
                go_region
                go_wp2
                go_roundw
                case rel => exact ⟨k + 1, d, some _, hlt, by go_num, HC.out, HF.out⟩
                case measure => simp [intOf]; omega
              · have hwb : (X.w == E.w) = false := by rw [beq_eq_false_iff_ne]; exact hw
                have HC : Hid (Gp lst (k + 1) (d ++ [X]) (some E)) := by
                  have := H.out.1.other hlt (HSM.out k hlt) (by rw [← HE.out.1]; exact hw)
                  rw [← HE.out.1] at this
                  exact this
                clear H hw
                go_wp2
                go_quiet (fail)
                generalize hwq : w7.drewN _ = wq
                have hbq : Bl w7 wq := by rw [← hwq]; exact Dr.bl ⟨_, rfl⟩
                clear hwq
                have P0 : wq.cell? ⟨P, 0, none⟩ = some (.int .i64 E.w) := at_bl hbq p0
                have P1 : wq.cell? ⟨P, 1, none⟩ = some (.int .i64 E.n) := at_bl hbq p1
                have P2 : wq.cell? ⟨P, 2, none⟩ = some (.string (tx E.t)) := at_bl hbq p2
                obtain ⟨Z, hZ⟩ : ∃ Z, Z = wq.heap.size := ⟨_, rfl⟩
                obtain ⟨w8, hw8⟩ : ∃ w8, w8 = wq.alloc (.cells #[.int .i64 E.w, .int .i64 E.n, .string (tx E.t)] 38) := ⟨_, rfl⟩
                have hb8 : Bl w7 w8 := by rw [hw8]; exact hbq.trans ((Bl.refl _).alloc _)
                have hz8 : w8.heap[Z]? = some (.cells #[.int .i64 E.w, .int .i64 E.n, .string (tx E.t)] 38 (0, 0)) := by rw [hw8, hZ]; exact heap_alloc_new wq _
                obtain ⟨v9, w9, hr, ho9, hg9⟩ := ed.app_one w8 w3.heap.size (.slice (some ⟨g, 0, none⟩) M1 cap) (d ++ [X]) E Z (HO7.out.1.step hb8) (by rw [cell_of hz8]; rfl) (by rw [cell_of hz8]; rfl) (by rw [cell_of hz8]; rfl) (by omega) (Nat.le_trans HO7.out.2.size hb8.size)
                have hb9 : Bl w3 w9 := bl_grown (HO7.out.2.trans hb8) hg9 (fun k e => (HO7.out.1.block k e).1)
                have eZ : wq.heap.size = Z := hZ.symm
                have ew8 : wq.alloc (.cells #[.int .i64 E.w, .int .i64 E.n, .string (tx E.t)] 38) = w8 := hw8.symm
                have HR : Hid _ := hr
                have HF : Hid (ed.Own w9 w3.heap.size v9 ((d ++ [X]) ++ [E]) ∧ Bl w3 w9) := ⟨ho9, hb9⟩
                clear hZ hw8 hbq hb8 hz8 hr ho9 hg9 hb9 p0 p1 p2
                go_wp2_with (at_builtin; refine Lib.wpList_append_run _ rfl (.tmp 148) (.tmp 150) _ _ rfl _ _ rfl rfl _ _ HR.out ?_)
                go_roundw
                case rel => exact ⟨k + 1, (d ++ [X]), some E, hlt, by go_num, HC.out, by simpa using HF.out.1, HF.out.2⟩
                case measure => simp [intOf]; omega
          · obtain rfl : k = lst.length := by omega
            have hend := H.out.1.end
            have HF : Hid (ed.Own wr w3.heap.size u10 (edits (L a) (L b)) ∧ Bl w3 wr) := by
              have h1 := H.out.2
              rw [hend, HLS.out] at h1
              exact h1
            clear hend
            go_wp2
            go_ret2
            exact ⟨_, rfl, HF.out.1.low HI.out.2.size, HI.out.2.trans HF.out.2⟩
end Go.Proofs.YtoiiphkcpdphbaaDoor.df
