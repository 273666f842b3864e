/- Edits of package diff. -/
import Derived.Test.YtoiiphkcpdphbaaDoorDf5
import Derived.Test.YtoiiphkcpdphbaaDoorEdRow
namespace Go.Proofs.YtoiiphkcpdphbaaDoor.df
set_option linter.unusedVariables false
open Go.ChangeShapes Go.WideShapes Go.ChangeAt Go.RowKit
open mem
theorem grp_len (l : List Ed) : (grp l).length ≤ l.length := by
  induction l with
  | nil => exact Nat.le_refl _
  | cons e r ih =>
    rw [grp_cons]
    cases h : grp r with
    | nil => simp
    | cons f k =>
      rw [h] at ih
      dsimp only
      split <;> simp at ih ⊢ <;> omega
theorem st_len (a b : List UInt8) : (st a b).length ≤ a.length + b.length := by
  fun_induction st a b <;> simp at * <;> omega
theorem edits_len (a b : List UInt8) : (edits a b).length ≤ a.length + b.length := Nat.le_trans (grp_len _) (st_len a b)
/-- What is done next, and what is left then. -/
theorem sf_next (a b : ByteArray) (I J : Nat) (hI : I ≤ a.size) (hJ : J ≤ b.size) :
    (nx (sf a b I J) = 0 ∧ I = a.size ∧ J = b.size ∧ sf a b I J = []) ∨ (nx (sf a b I J) = 1 ∧ I < a.size ∧ J < b.size ∧ sf a b I J = ⟨1, 1, []⟩ :: sf a b (I + 1) (J + 1)) ∨
    (nx (sf a b I J) = 2 ∧ I < a.size ∧ sf a b I J = ⟨2, 1, []⟩ :: sf a b (I + 1) J) ∨ (nx (sf a b I J) = 3 ∧ J < b.size ∧ ∃ y, sf a b I J = ⟨3, 0, [y]⟩ :: sf a b I (J + 1) ∧ (L b).drop J = y :: (L b).drop (J + 1)) := by
  by_cases h1 : I = a.size
  · subst h1
    by_cases h2 : J = b.size
    · subst h2; left; rw [sf_end]; exact ⟨rfl, rfl, rfl, rfl⟩
    · obtain ⟨y, hy, hz⟩ := sf_give a b J (by omega)
      right; right; right; rw [hy]; exact ⟨rfl, by omega, y, rfl, hz⟩
  · by_cases h2 : J = b.size
    · subst h2; right; right; left; rw [sf_take a b I (by omega)]; exact ⟨rfl, by omega, rfl⟩
    · by_cases h3 : sb a I = sb b J
      · right; left; rw [sf_keep a b I J (by omega) (by omega) h3]; exact ⟨rfl, by omega, by omega, rfl⟩
      · by_cases hk : kp a b I (J + 1) ≤ kp a b (I + 1) J
        · right; right; left; rw [sf_take' a b I J (by omega) (by omega) h3 hk]; exact ⟨rfl, by omega, rfl⟩
        · obtain ⟨y, hy, hz⟩ := sf_give' a b I J (by omega) (by omega) h3 hk
          right; right; right; rw [hy]; exact ⟨rfl, by omega, y, rfl, hz⟩
/-- A piece under way. -/
def pc (b : ByteArray) (k : Int) (I J I' J' : Nat) : Ed := if k = 3 then ⟨3, 0, ((L b).take J').drop J⟩ else ⟨k, (I' : Int) - (I : Int), []⟩
theorem pc_else (b : ByteArray) (k : Int) (I J I' J' : Nat) (hk : k ≠ 3) : pc b k I J I' J' = ⟨k, (I' : Int) - (I : Int), []⟩ := by unfold pc; rw [if_neg hk]
theorem pc_three (b : ByteArray) (I J I' J' : Nat) : pc b 3 I J I' J' = ⟨3, 0, ((L b).take J').drop J⟩ := rfl
theorem mrg_more (k : Int) (I I' : Nat) : mrg ⟨k, (I' : Int) - (I : Int), []⟩ ⟨k, 1, []⟩ = ⟨k, ((I' + 1 : Nat) : Int) - (I : Int), []⟩ := by
  unfold mrg
  rw [show ((I' : Int) - (I : Int) + 1) = ((I' + 1 : Nat) : Int) - (I : Int) by omega]
  rfl
/-- How far a piece has come. -/
def Pc (a b : ByteArray) (k : Int) (I J I' J' : Nat) : Prop := I ≤ I' ∧ J ≤ J' ∧ I' ≤ a.size ∧ J' ≤ b.size ∧ (I' = I ∧ J' = J ∨ I + J < I' + J') ∧ grp (pc b k I J I' J' :: sf a b I' J') = grp (sf a b I J)
theorem Pc.zero (a b : ByteArray) (k : Int) (I J : Nat) (hI : I ≤ a.size) (hJ : J ≤ b.size) (hk : nx (sf a b I J) = k) (h0 : k ≠ 0) : Pc a b k I J I J := by
  refine ⟨Nat.le_refl _, Nat.le_refl _, hI, hJ, Or.inl ⟨rfl, rfl⟩, ?_⟩
  rcases sf_next a b I J hI hJ with ⟨h1, _⟩ | ⟨h1, h2, h3, h4⟩ | ⟨h1, h2, h4⟩ | ⟨h1, h2, y, h4, h5⟩
  · omega
  · rw [h1] at hk; subst hk
    rw [h4, grp_merge _ _ _ (by rfl)]; simp [pc, mrg]
  · rw [h1] at hk; subst hk
    rw [h4, grp_merge _ _ _ (by rfl)]; simp [pc, mrg]
  · rw [h1] at hk; subst hk
    rw [h4, grp_merge _ _ _ (by rfl)]
    have e : ((L b).take J).drop J = [] := List.drop_of_length_le (by simp; omega)
    simp [pc, mrg, e]
theorem Pc.step {a b : ByteArray} {k : Int} {I J I' J' : Nat} (h : Pc a b k I J I' J') (hk : nx (sf a b I' J') = k) (h0 : k ≠ 0) :
    Pc a b k I J (if k = 3 then I' else I' + 1) (if k = 2 then J' else J' + 1) := by
  obtain ⟨g1, g2, g3, g4, g5, g6⟩ := h
  rcases sf_next a b I' J' g3 g4 with ⟨h1, _⟩ | ⟨h1, h2, h3, h4⟩ | ⟨h1, h2, h4⟩ | ⟨h1, h2, y, h4, h5⟩
  · omega
  · rw [h1] at hk; subst hk
    rw [if_neg (by decide), if_neg (by decide)]
    refine ⟨by omega, by omega, by omega, by omega, by omega, ?_⟩
    rw [← g6, h4, pc_else _ _ _ _ _ _ (by decide), pc_else _ _ _ _ _ _ (by decide), grp_merge _ _ _ (by rfl), mrg_more]
  · rw [h1] at hk; subst hk
    rw [if_neg (by decide), if_pos rfl]
    refine ⟨by omega, by omega, by omega, by omega, by omega, ?_⟩
    rw [← g6, h4, pc_else _ _ _ _ _ _ (by decide), pc_else _ _ _ _ _ _ (by decide), grp_merge _ _ _ (by rfl), mrg_more]
  · rw [h1] at hk; subst hk
    rw [if_pos rfl, if_neg (by decide)]
    refine ⟨by omega, by omega, by omega, by omega, by omega, ?_⟩
    rw [← g6, h4, grp_merge _ _ _ (by rfl)]
    have e : ((L b).take (J' + 1)).drop J = ((L b).take J').drop J ++ [y] := by
      have hl : J' < (L b).length := by rw [L_len]; exact h2
      have hy : (L b)[J'] = y := by
        have := List.drop_eq_getElem_cons hl
        rw [this] at h5
        injection h5
      rw [List.take_add_one, List.getElem?_eq_getElem hl, hy, List.drop_append_of_le_length (by simp; omega)]
      rfl
    simp [pc, mrg, e]
theorem Pc.done {a b : ByteArray} {k : Int} {I J I' J' : Nat} (h : Pc a b k I J I' J') (hk : nx (sf a b I' J') ≠ k) (h0 : nx (sf a b I J) = k) : grp (sf a b I J) = pc b k I J I' J' :: grp (sf a b I' J') ∧ I + J < I' + J' := by
  obtain ⟨g1, g2, g3, g4, g5, g6⟩ := h
  refine ⟨?_, ?_⟩
  · rw [← g6]
    refine grp_stop _ _ ?_
    have e : (pc b k I J I' J').w = k := by unfold pc; split <;> simp_all
    rw [e]; exact hk
  · rcases g5 with ⟨rfl, rfl⟩ | g5
    · exact absurd h0 hk
    · exact g5
set_option maxHeartbeats 2000000 in
set_option maxRecDepth 10000 in
theorem Edits_at (a b : ByteArray) (w : World) (hab : a.size + b.size ≤ 4000) :
    Calls Tryd.prog 9 #[.string a, .string b] w fun e w' => ∃ v, e = .returned (.tuple #[v, .nilIface]) ∧ ed.Own w' w.heap.size v (edits (L a) (L b)) ∧ Bl w w' := by
  have hnl : ¬ 4000 < (a.size : Int) + (b.size : Int) := by omega
  obtain ⟨N, hN⟩ : ∃ N, N = (a.size + 1) * (b.size + 1) := ⟨_, rfl⟩
  have HN : Hid (N = (a.size + 1) * (b.size + 1)) := hN
  have cP := pairOf_at a b w hab
  rw [← hN] at cP
  clear hN
  have HL : Hid ((edits (L a) (L b)).length ≤ 4000) := Nat.le_trans (edits_len _ _) (by rw [L_len, L_len]; exact hab)
  go_enter Tryd.func9, Tryd.ntmps9
  go_wp2_with (go_at_call 20; refine cP.mono ?_; rintro e w1 ⟨B, rfl, hBw, l, hrow, hkt, hbl⟩; have H1 : Hid (w.heap.size ≤ B ∧ RowU w1 B l ∧ KT a b l (-1) (-1) ∧ Bl w w1) := ⟨hBw, hrow, hkt, hbl⟩; clear hBw hrow hkt hbl)
  obtain ⟨P, hP⟩ : ∃ P, P = w1.heap.size := ⟨_, rfl⟩
  obtain ⟨w4, hw4⟩ : ∃ w4, w4 = w1.alloc (.cells #[.string a, .string b, .slice (some ⟨B, 0, none⟩) N N] 58) := ⟨_, rfl⟩
  have HZ : Hid (RowU w4 B l ∧ KT a b l (-1) (-1) ∧ Bl w w4 ∧ w4.heap[P]? = some (.cells #[.string a, .string b, .slice (some ⟨B, 0, none⟩) N N] 58 (0, 0))) := by
    have hb : Bl w1 w4 := by rw [hw4]; exact (Bl.refl _).alloc _
    refine ⟨H1.out.2.1.step hb, H1.out.2.2.1, H1.out.2.2.2.trans hb, ?_⟩
    rw [hw4, hP]
    show (w1.heap.push _)[w1.heap.size]? = _
    rw [Array.getElem?_push, if_pos rfl]
  rw [← hw4, ← hP]
  clear hw4 hP cP H1
  have cN : ∀ (I J : Nat) (wx : World), Bl w4 wx → I ≤ a.size → J ≤ b.size → Calls Tryd.prog 21 #[.agg #[.string a, .string b, .slice (some ⟨B, 0, none⟩) N N], .int .i64 (I : Int), .int .i64 (J : Int)] wx fun e w' => e = .returned (.int .i64 (nx (sf a b I J))) ∧ Bl wx w' :=
    fun I J wx hb hI hJ => next_at a b I J B N l wx hab hI hJ HN.out (HZ.out.1.step hb) HZ.out.2.1
  have HC : Hid (∀ wx : World, Bl w4 wx → wx.cell? ⟨P, 0, none⟩ = some (.string a) ∧ wx.cell? ⟨P, 1, none⟩ = some (.string b) ∧ wx.cell? ⟨P, 2, none⟩ = some (.slice (some ⟨B, 0, none⟩) N N)) := by
    intro wx hb
    have h := HZ.out.2.2.2
    refine ⟨at_bl hb (by rw [cell_of h]; rfl), at_bl hb (by rw [cell_of h]; rfl), at_bl hb (by rw [cell_of h]; rfl)⟩
  refine (cN 0 0 w4 (Bl.refl _) (Nat.zero_le _) (Nat.zero_le _)).mono ?_
  rintro e w5 ⟨rfl, hb5⟩
  have HE : Hid (edits (L a) (L b) = grp (sf a b 0 0)) := by show edits (L a) (L b) = grp (st ((L a).drop 0) ((L b).drop 0)); rfl
  have HB5 : Hid (Bl w4 w5) := hb5
  clear hb5
  go_wp2
  go_loopw [6, 8, 9, 10, 11, 12] (fun v iv jv kv _ _ wr => ∃ (I J : Nat) (lst : List Ed), I ≤ a.size ∧ J ≤ b.size ∧ iv = .int .i64 (I : Int) ∧ jv = .int .i64 (J : Int) ∧ kv = .int .i64 (nx (sf a b I J)) ∧ Hid (ed.Own wr w4.heap.size v lst ∧ lst ++ grp (sf a b I J) = edits (L a) (L b) ∧ Bl w4 wr)) (fun _ iv jv _ _ _ _ => a.size + b.size - ((intOf iv).toNat + (intOf jv).toNat))
  case atStart => exact ⟨0, 0, [], Nat.zero_le _, Nat.zero_le _, rfl, rfl, rfl, ed.Own.nil _ _, by rw [List.nil_append]; exact HE.out.symm, HB5.out⟩
  case round =>
    clear HE HB5
    obtain ⟨I, J, lst, hI, hJ, rfl, rfl, rfl, H⟩ := hrel
    obtain ⟨k, hk⟩ : ∃ k, nx (sf a b I J) = k := ⟨_, rfl⟩
    rw [hk]
    have HK : Hid (nx (sf a b I J) = k) := hk
    clear hk
    by_cases h0 : k = 0
    · subst h0
      have HF : Hid (lst = edits (L a) (L b) ∧ Bl w4 wr) := by
        refine ⟨?_, H.out.2.2⟩
        rcases sf_next a b I J hI hJ with ⟨h1, _, _, h4⟩ | ⟨h1, _⟩ | ⟨h1, _⟩ | ⟨h1, _⟩
        · have := H.out.2.1
          rw [h4] at this
          rw [← this]; simp [grp]
        · have := HK.out; omega
        · have := HK.out; omega
        · have := HK.out; omega
      go_wp2
      go_ret2
      refine ⟨_, rfl, ?_, HZ.out.2.2.1.trans HF.out.2⟩
      rw [← HF.out.1]
      exact H.out.1.low HZ.out.2.2.1.size
    · have h123 : k = 1 ∨ k = 2 ∨ k = 3 := by
        have := HK.out
        rcases sf_next a b I J hI hJ with ⟨h1, _⟩ | ⟨h1, _⟩ | ⟨h1, _⟩ | ⟨h1, _⟩ <;> omega
      clear h0
      rcases h123 with rfl | rfl | rfl
      · have HO0 : Hid (ed.Own wr w4.heap.size u6 lst ∧ Bl w4 wr) := ⟨H.out.1, H.out.2.2⟩
        have HA : Hid (lst ++ grp (sf a b I J) = edits (L a) (L b)) := H.out.2.1
        clear H
        go_wp2
        go_loopw [8, 9] (fun iv jv wr => ∃ I' J' : Nat, iv = .int .i64 (I' : Int) ∧ jv = .int .i64 (J' : Int) ∧ Hid (Pc a b 1 I J I' J' ∧ ed.Own wr w4.heap.size u6 lst ∧ Bl w4 wr)) (fun iv jv _ => a.size + b.size - ((intOf iv).toNat + (intOf jv).toNat))
        case atStart => exact ⟨I, J, rfl, rfl, Pc.zero a b 1 I J hI hJ HK.out (by decide), HO0.out⟩
        case round =>
        clear HO0
        obtain ⟨I', J', rfl, rfl, H⟩ := hrel
        obtain ⟨g1, g2, g3, g4, _, _⟩ := H.out.1
        obtain ⟨v0, v1, v2⟩ := HC.out _ H.out.2.2
        have cN' := cN I' J' _ H.out.2.2 g3 g4
        by_cases hq : nx (sf a b I' J') = 1
        · rw [hq] at cN'
          have HP := H.out.1.step hq (by decide)
          simp only [show ((1 : Int) = 3) = False by decide, show ((1 : Int) = 2) = False by decide, if_false] at HP
          have HP' : Hid (Pc a b 1 I J (I' + 1) (J' + 1)) := HP
          have hb1 := HP.2.2.1
          have hb2 := HP.2.2.2.1
          clear HP hq
          go_wp2_with fail
          refine cN'.mono ?_
          rintro e w6 ⟨rfl, hb6⟩
          have HF : Hid (ed.Own w6 w4.heap.size u6 lst ∧ Bl w4 w6) := ⟨H.out.2.1.step hb6, H.out.2.2.trans hb6⟩
          clear hb6 cN'
          go_wp2
          go_roundw
          case rel => exact ⟨I' + 1, J' + 1, by go_num, by go_num, HP'.out, HF.out⟩
          case measure => simp [intOf]; omega
        · have HD := H.out.1.done hq HK.out
          have hpe := pc_else b 1 I J I' J' (by decide)
          obtain ⟨D, hD⟩ : ∃ D : Int, D = (I' : Int) - (I : Int) := ⟨_, rfl⟩
          have hdf : (I' : Int) - (I : Int) = D := hD.symm
          have hDb : 0 ≤ D ∧ D ≤ 4000 := by omega
          rw [hpe] at HD
          obtain ⟨q, hqq⟩ : ∃ q, nx (sf a b I' J') = q := ⟨_, rfl⟩
          rw [hqq] at cN'
          have dq : (q == 1) = false := by rw [beq_eq_false_iff_ne, ← hqq]; exact hq
          have HQ : Hid (nx (sf a b I' J') = q) := hqq
          clear hqq hq
          go_wp2_with fail
          refine cN'.mono ?_
          rintro e w6 ⟨rfl, hb6⟩
          clear cN'
          have hll : lst.length ≤ 4000 := by
            have h1 := HL.out
            rw [← HA.out, List.length_append] at h1
            omega
          have hsz : w4.heap.size ≤ w6.heap.size := (H.out.2.2.trans hb6).size
          obtain ⟨X, hX⟩ : ∃ X, X = w6.heap.size := ⟨_, rfl⟩
          obtain ⟨w7, hw7⟩ : ∃ w7, w7 = w6.alloc (.cells #[.int .i64 1, .int .i64 D, .string ⟨#[]⟩] 38) := ⟨_, rfl⟩
          have hb7 : Bl w6 w7 := by rw [hw7]; exact (Bl.refl _).alloc _
          obtain ⟨v', w8, hr, ho, hg⟩ := ed.app_one w7 w4.heap.size u6 lst (pc b 1 I J I' J') X ((H.out.2.1.step hb6).step hb7) (by rw [hw7, hX, cell_of (heap_alloc_new w6 _), hpe]; rfl) (by rw [hw7, hX, cell_of (heap_alloc_new w6 _), hpe, hdf]; rfl) (by rw [hw7, hX, cell_of (heap_alloc_new w6 _), hpe]; rfl) (by omega) (Nat.le_trans hsz hb7.size)
          have hb8 : Bl w4 w8 := bl_grown ((H.out.2.2.trans hb6).trans hb7) hg (fun x e => (H.out.2.1.block x e).1)
          have HF : Hid (ed.Own w8 w4.heap.size v' (lst ++ [pc b 1 I J I' J']) ∧ (lst ++ [pc b 1 I J I' J']) ++ grp (sf a b I' J') = edits (L a) (L b) ∧ Bl w4 w8) := by
            refine ⟨ho, ?_, hb8⟩
            rw [← HA.out, HD.1, hpe, List.append_assoc]
            rfl
          have hlt := HD.2
          have HR : Hid _ := hr
          obtain ⟨v0, v1, v2⟩ := HC.out _ hb8
          have cN' := cN I' J' _ hb8 g3 g4
          have hw7' : w6.alloc (.cells #[.int .i64 1, .int .i64 D, .string ⟨#[]⟩] 38) = w7 := hw7.symm
          have hX' : w6.heap.size = X := hX.symm
          clear hD hpe hr ho hg hb8 hb7 hX hw7 HD hb6 hsz hll
          go_wp2_with (at_builtin; refine Lib.wpList_append_run _ rfl (.tmp 60) (.tmp 66) _ _ rfl _ _ rfl rfl _ _ HR.out ?_)
          refine cN'.mono ?_
          rintro e w9 ⟨rfl, hb9⟩
          go_wp2
          go_roundw
          case rel => exact ⟨I', J', _, g3, g4, rfl, rfl, rfl, HF.out.1.step hb9, HF.out.2.1, HF.out.2.2.trans hb9⟩
          case measure => simp [intOf]; omega
      · have HO0 : Hid (ed.Own wr w4.heap.size u6 lst ∧ Bl w4 wr) := ⟨H.out.1, H.out.2.2⟩
        have HA : Hid (lst ++ grp (sf a b I J) = edits (L a) (L b)) := H.out.2.1
        clear H
        go_wp2
        go_loopw [8, 9] (fun iv jv wr => ∃ I' J' : Nat, iv = .int .i64 (I' : Int) ∧ jv = .int .i64 (J' : Int) ∧ Hid (Pc a b 2 I J I' J' ∧ ed.Own wr w4.heap.size u6 lst ∧ Bl w4 wr)) (fun iv jv _ => a.size + b.size - ((intOf iv).toNat + (intOf jv).toNat))
        case atStart => exact ⟨I, J, rfl, rfl, Pc.zero a b 2 I J hI hJ HK.out (by decide), HO0.out⟩
        case round =>
        clear HO0
        obtain ⟨I', J', rfl, rfl, H⟩ := hrel
        obtain ⟨g1, g2, g3, g4, _, _⟩ := H.out.1
        obtain ⟨v0, v1, v2⟩ := HC.out _ H.out.2.2
        have cN' := cN I' J' _ H.out.2.2 g3 g4
        by_cases hq : nx (sf a b I' J') = 2
        · rw [hq] at cN'
          have HP := H.out.1.step hq (by decide)
          simp only [show ((2 : Int) = 3) = False by decide, if_true, if_false] at HP
          have HP' : Hid (Pc a b 2 I J (I' + 1) (J')) := HP
          have hb1 := HP.2.2.1
          have hb2 := HP.2.2.2.1
          clear HP hq
          go_wp2_with fail
          refine cN'.mono ?_
          rintro e w6 ⟨rfl, hb6⟩
          have HF : Hid (ed.Own w6 w4.heap.size u6 lst ∧ Bl w4 w6) := ⟨H.out.2.1.step hb6, H.out.2.2.trans hb6⟩
          clear hb6 cN'
          go_wp2
          go_roundw
          case rel => exact ⟨I' + 1, J', by go_num, by go_num, HP'.out, HF.out⟩
          case measure => simp [intOf]; omega
        · have HD := H.out.1.done hq HK.out
          have hpe := pc_else b 2 I J I' J' (by decide)
          obtain ⟨D, hD⟩ : ∃ D : Int, D = (I' : Int) - (I : Int) := ⟨_, rfl⟩
          have hdf : (I' : Int) - (I : Int) = D := hD.symm
          have hDb : 0 ≤ D ∧ D ≤ 4000 := by omega
          rw [hpe] at HD
          obtain ⟨q, hqq⟩ : ∃ q, nx (sf a b I' J') = q := ⟨_, rfl⟩
          rw [hqq] at cN'
          have dq : (q == 2) = false := by rw [beq_eq_false_iff_ne, ← hqq]; exact hq
          have HQ : Hid (nx (sf a b I' J') = q) := hqq
          clear hqq hq
          go_wp2_with fail
          refine cN'.mono ?_
          rintro e w6 ⟨rfl, hb6⟩
          clear cN'
          have hll : lst.length ≤ 4000 := by
            have h1 := HL.out
            rw [← HA.out, List.length_append] at h1
            omega
          have hsz : w4.heap.size ≤ w6.heap.size := (H.out.2.2.trans hb6).size
          obtain ⟨X, hX⟩ : ∃ X, X = w6.heap.size := ⟨_, rfl⟩
          obtain ⟨w7, hw7⟩ : ∃ w7, w7 = w6.alloc (.cells #[.int .i64 2, .int .i64 D, .string ⟨#[]⟩] 38) := ⟨_, rfl⟩
          have hb7 : Bl w6 w7 := by rw [hw7]; exact (Bl.refl _).alloc _
          obtain ⟨v', w8, hr, ho, hg⟩ := ed.app_one w7 w4.heap.size u6 lst (pc b 2 I J I' J') X ((H.out.2.1.step hb6).step hb7) (by rw [hw7, hX, cell_of (heap_alloc_new w6 _), hpe]; rfl) (by rw [hw7, hX, cell_of (heap_alloc_new w6 _), hpe, hdf]; rfl) (by rw [hw7, hX, cell_of (heap_alloc_new w6 _), hpe]; rfl) (by omega) (Nat.le_trans hsz hb7.size)
          have hb8 : Bl w4 w8 := bl_grown ((H.out.2.2.trans hb6).trans hb7) hg (fun x e => (H.out.2.1.block x e).1)
          have HF : Hid (ed.Own w8 w4.heap.size v' (lst ++ [pc b 2 I J I' J']) ∧ (lst ++ [pc b 2 I J I' J']) ++ grp (sf a b I' J') = edits (L a) (L b) ∧ Bl w4 w8) := by
            refine ⟨ho, ?_, hb8⟩
            rw [← HA.out, HD.1, hpe, List.append_assoc]
            rfl
          have hlt := HD.2
          have HR : Hid _ := hr
          obtain ⟨v0, v1, v2⟩ := HC.out _ hb8
          have cN' := cN I' J' _ hb8 g3 g4
          have hw7' : w6.alloc (.cells #[.int .i64 2, .int .i64 D, .string ⟨#[]⟩] 38) = w7 := hw7.symm
          have hX' : w6.heap.size = X := hX.symm
          clear hD hpe hr ho hg hb8 hb7 hX hw7 HD hb6 hsz hll
          go_wp2_with (at_builtin; refine Lib.wpList_append_run _ rfl (.tmp 60) (.tmp 66) _ _ rfl _ _ rfl rfl _ _ HR.out ?_)
          refine cN'.mono ?_
          rintro e w9 ⟨rfl, hb9⟩
          go_wp2
          go_roundw
          case rel => exact ⟨I', J', _, g3, g4, rfl, rfl, rfl, HF.out.1.step hb9, HF.out.2.1, HF.out.2.2.trans hb9⟩
          case measure => simp [intOf]; omega
      · have HO0 : Hid (ed.Own wr w4.heap.size u6 lst ∧ Bl w4 wr) := ⟨H.out.1, H.out.2.2⟩
        have HA : Hid (lst ++ grp (sf a b I J) = edits (L a) (L b)) := H.out.2.1
        clear H
        go_wp2
        go_loopw [8, 9] (fun iv jv wr => ∃ I' J' : Nat, iv = .int .i64 (I' : Int) ∧ jv = .int .i64 (J' : Int) ∧ Hid (Pc a b 3 I J I' J' ∧ ed.Own wr w4.heap.size u6 lst ∧ Bl w4 wr)) (fun iv jv _ => a.size + b.size - ((intOf iv).toNat + (intOf jv).toNat))
        case atStart => exact ⟨I, J, rfl, rfl, Pc.zero a b 3 I J hI hJ HK.out (by decide), HO0.out⟩
        case round =>
        clear HO0
        obtain ⟨I', J', rfl, rfl, H⟩ := hrel
        obtain ⟨g1, g2, g3, g4, _, _⟩ := H.out.1
        obtain ⟨v0, v1, v2⟩ := HC.out _ H.out.2.2
        have cN' := cN I' J' _ H.out.2.2 g3 g4
        by_cases hq : nx (sf a b I' J') = 3
        · rw [hq] at cN'
          have HP := H.out.1.step hq (by decide)
          simp only [show ((3 : Int) = 2) = False by decide, if_true, if_false] at HP
          have HP' : Hid (Pc a b 3 I J (I') (J' + 1)) := HP
          have hb1 := HP.2.2.1
          have hb2 := HP.2.2.2.1
          clear HP hq
          go_wp2_with fail
          refine cN'.mono ?_
          rintro e w6 ⟨rfl, hb6⟩
          have HF : Hid (ed.Own w6 w4.heap.size u6 lst ∧ Bl w4 w6) := ⟨H.out.2.1.step hb6, H.out.2.2.trans hb6⟩
          clear hb6 cN'
          go_wp2
          go_roundw
          case rel => exact ⟨I', J' + 1, by go_num, by go_num, HP'.out, HF.out⟩
          case measure => simp [intOf]; omega
        · have HD := H.out.1.done hq HK.out
          have hpe := pc_three b I J I' J'
          obtain ⟨Z, hZ⟩ : ∃ Z, Z = b.extract J J' := ⟨_, rfl⟩
          have hex : b.extract J J' = Z := hZ.symm
          have hZt : Z = tx (((L b).take J').drop J) := by rw [hZ, ← L_ext, tx_L]
          rw [hpe] at HD
          obtain ⟨q, hqq⟩ : ∃ q, nx (sf a b I' J') = q := ⟨_, rfl⟩
          rw [hqq] at cN'
          have dq : (q == 3) = false := by rw [beq_eq_false_iff_ne, ← hqq]; exact hq
          have HQ : Hid (nx (sf a b I' J') = q) := hqq
          clear hqq hq
          go_wp2_with fail
          refine cN'.mono ?_
          rintro e w6 ⟨rfl, hb6⟩
          clear cN'
          have hll : lst.length ≤ 4000 := by
            have h1 := HL.out
            rw [← HA.out, List.length_append] at h1
            omega
          have hsz : w4.heap.size ≤ w6.heap.size := (H.out.2.2.trans hb6).size
          obtain ⟨X, hX⟩ : ∃ X, X = w6.heap.size := ⟨_, rfl⟩
          obtain ⟨w7, hw7⟩ : ∃ w7, w7 = w6.alloc (.cells #[.int .i64 3, .int .i64 0, .string Z] 38) := ⟨_, rfl⟩
          have hb7 : Bl w6 w7 := by rw [hw7]; exact (Bl.refl _).alloc _
          obtain ⟨v', w8, hr, ho, hg⟩ := ed.app_one w7 w4.heap.size u6 lst (pc b 3 I J I' J') X ((H.out.2.1.step hb6).step hb7) (by rw [hw7, hX, cell_of (heap_alloc_new w6 _), hpe]; rfl) (by rw [hw7, hX, cell_of (heap_alloc_new w6 _), hpe]; rfl) (by rw [hw7, hX, cell_of (heap_alloc_new w6 _), hpe, hZt]; rfl) (by omega) (Nat.le_trans hsz hb7.size)
          have hb8 : Bl w4 w8 := bl_grown ((H.out.2.2.trans hb6).trans hb7) hg (fun x e => (H.out.2.1.block x e).1)
          have HF : Hid (ed.Own w8 w4.heap.size v' (lst ++ [pc b 3 I J I' J']) ∧ (lst ++ [pc b 3 I J I' J']) ++ grp (sf a b I' J') = edits (L a) (L b) ∧ Bl w4 w8) := by
            refine ⟨ho, ?_, hb8⟩
            rw [← HA.out, HD.1, hpe, List.append_assoc]
            rfl
          have hlt := HD.2
          have HR : Hid _ := hr
          obtain ⟨v0, v1, v2⟩ := HC.out _ hb8
          have cN' := cN I' J' _ hb8 g3 g4
          have hw7' : w6.alloc (.cells #[.int .i64 3, .int .i64 0, .string Z] 38) = w7 := hw7.symm
          have hX' : w6.heap.size = X := hX.symm
          clear hZ hZt hpe hr ho hg hb8 hb7 hX hw7 HD hb6 hsz hll
          go_wp2_with (at_builtin; refine Lib.wpList_append_run _ rfl (.tmp 51) (.tmp 58) _ _ rfl _ _ rfl rfl _ _ HR.out ?_)
          refine cN'.mono ?_
          rintro e w9 ⟨rfl, hb9⟩
          go_wp2
          go_roundw
          case rel => exact ⟨I', J', _, g3, g4, rfl, rfl, rfl, HF.out.1.step hb9, HF.out.2.1, HF.out.2.2.trans hb9⟩
          case measure => simp [intOf]; omega
end Go.Proofs.YtoiiphkcpdphbaaDoor.df
