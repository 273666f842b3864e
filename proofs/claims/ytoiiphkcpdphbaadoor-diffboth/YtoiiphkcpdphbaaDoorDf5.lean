/- next of package diff: what is done with the next byte. -/
import Derived.Test.YtoiiphkcpdphbaaDoorDf4
namespace Go.Proofs.YtoiiphkcpdphbaaDoor.df
set_option linter.unusedVariables false
open Go.ChangeShapes Go.WideShapes Go.ChangeAt Go.RowKit
open mem
/-- The edits that are left from these places on, byte by byte. -/
def sf (a b : ByteArray) (i j : Nat) : List Ed := st ((L a).drop i) ((L b).drop j)
theorem drop_end (a : ByteArray) : (L a).drop a.size = [] := List.drop_of_length_le (by rw [L_len]; exact Nat.le_refl _)
theorem sf_end (a b : ByteArray) : sf a b a.size b.size = [] := by unfold sf; rw [drop_end, drop_end, st]
theorem sf_give (a b : ByteArray) (j : Nat) (hj : j < b.size) : ∃ y, sf a b a.size j = ⟨3, 0, [y]⟩ :: sf a b a.size (j + 1) ∧ (L b).drop j = y :: (L b).drop (j + 1) := by
  obtain ⟨y, h3, h4⟩ := drop_at b j hj
  refine ⟨y, ?_, h3⟩
  unfold sf; rw [drop_end, h3, st]
theorem sf_take (a b : ByteArray) (i : Nat) (hi : i < a.size) : sf a b i b.size = ⟨2, 1, []⟩ :: sf a b (i + 1) b.size := by
  obtain ⟨x, h1, h2⟩ := drop_at a i hi
  unfold sf; rw [drop_end, h1, st]
theorem sf_keep (a b : ByteArray) (i j : Nat) (hi : i < a.size) (hj : j < b.size) (h : sb a i = sb b j) : sf a b i j = ⟨1, 1, []⟩ :: sf a b (i + 1) (j + 1) := by
  obtain ⟨x, h1, h2⟩ := drop_at a i hi
  obtain ⟨y, h3, h4⟩ := drop_at b j hj
  unfold sf; rw [h1, h3, st, if_pos (UInt8.toNat_inj.1 (by omega))]
theorem sf_take' (a b : ByteArray) (i j : Nat) (hi : i < a.size) (hj : j < b.size) (h : sb a i ≠ sb b j) (hk : kp a b i (j + 1) ≤ kp a b (i + 1) j) : sf a b i j = ⟨2, 1, []⟩ :: sf a b (i + 1) j := by
  obtain ⟨x, h1, h2⟩ := drop_at a i hi
  obtain ⟨y, h3, h4⟩ := drop_at b j hj
  unfold kp at hk
  rw [h1, h3] at hk
  unfold sf; rw [h1, h3, st, if_neg (fun e => h (by rw [h2, h4, e])), if_pos hk]
theorem sf_give' (a b : ByteArray) (i j : Nat) (hi : i < a.size) (hj : j < b.size) (h : sb a i ≠ sb b j) (hk : ¬ kp a b i (j + 1) ≤ kp a b (i + 1) j) : ∃ y, sf a b i j = ⟨3, 0, [y]⟩ :: sf a b i (j + 1) ∧ (L b).drop j = y :: (L b).drop (j + 1) := by
  obtain ⟨x, h1, h2⟩ := drop_at a i hi
  obtain ⟨y, h3, h4⟩ := drop_at b j hj
  unfold kp at hk
  rw [h1, h3] at hk
  refine ⟨y, ?_, h3⟩
  unfold sf; rw [h1, h3, st, if_neg (fun e => h (by rw [h2, h4, e])), if_neg hk]
set_option maxHeartbeats 1000000 in
set_option maxRecDepth 10000 in
theorem next_at (a b : ByteArray) (I J B N : Nat) (l : List Int) (w : World) (hab : a.size + b.size ≤ 4000) (hI : I ≤ a.size) (hJ : J ≤ b.size) (hN : N = (a.size + 1) * (b.size + 1)) (hr : RowU w B l) (hk : KT a b l (-1) (-1)) :
    Calls Tryd.prog 21 #[.agg #[.string a, .string b, .slice (some ⟨B, 0, none⟩) N N], .int .i64 (I : Int), .int .i64 (J : Int)] w fun e w' => e = .returned (.int .i64 (nx (sf a b I J))) ∧ Bl w w' := by
  have hNb : N ≤ 20000000 := by
    rw [hN]
    exact Nat.le_trans (Nat.mul_le_mul (show a.size + 1 ≤ 4001 by omega) (show b.size + 1 ≤ 4001 by omega)) (by decide)
  obtain ⟨R, hR⟩ : ∃ R, R = b.size + 1 := ⟨_, rfl⟩
  have hRb : R ≤ 4001 := by omega
  have eR : (b.size : Int) + 1 = (R : Int) := by omega
  have HR : Hid (RowU w B l ∧ KT a b l (-1) (-1) ∧ N = (a.size + 1) * (b.size + 1) ∧ R = b.size + 1) := ⟨hr, hk, hN, hR⟩
  clear hr hk hN hR
  by_cases h1 : I = a.size
  · subst h1
    by_cases h2 : J = b.size
    · subst h2
      rw [sf_end]
      go_enter Tryd.func21, Tryd.ntmps21
      go_wp2
      go_ret
      exact ⟨rfl, (Bl.refl _).alloc _⟩
    · have hJb : J < b.size := by omega
      obtain ⟨y, hy, _⟩ := sf_give a b J hJb
      rw [hy]
      have d2 : ((J : Int) == (b.size : Int)) = false := by rw [beq_eq_false_iff_ne]; omega
      go_enter Tryd.func21, Tryd.ntmps21
      go_wp2
      go_ret
      exact ⟨rfl, (Bl.refl _).alloc _⟩
  · have hIa : I < a.size := by omega
    have d1 : ((I : Int) == (a.size : Int)) = false := by rw [beq_eq_false_iff_ne]; omega
    by_cases h2 : J = b.size
    · subst h2
      rw [sf_take a b I hIa]
      go_enter Tryd.func21, Tryd.ntmps21
      go_wp2
      go_ret
      exact ⟨rfl, (Bl.refl _).alloc _⟩
    · have hJb : J < b.size := by omega
      have d2 : ((J : Int) == (b.size : Int)) = false := by rw [beq_eq_false_iff_ne]; omega
      have e1 : (((a[I]'hIa).toNat : Nat) : Int) = sb a I := (sb_get a I hIa).symm
      have e2 : (((b[J]'hJb).toNat : Nat) : Int) = sb b J := (sb_get b J hJb).symm
      by_cases h3 : sb a I = sb b J
      · have d3 : (sb a I == sb b J) = true := by rw [beq_iff_eq]; exact h3
        rw [sf_keep a b I J hIa hJb h3]
        clear h3
        go_enter Tryd.func21, Tryd.ntmps21
        go_wp2
        go_quiet (fail)
        go_wp2
        go_ret
        exact ⟨rfl, ((Bl.refl _).alloc _).trans (Dr.bl ⟨_, rfl⟩)⟩
      · have d3 : (sb a I == sb b J) = false := by rw [beq_eq_false_iff_ne]; exact h3
        obtain ⟨T, hT⟩ : ∃ T, T = I * R := ⟨_, rfl⟩
        have eT : (I : Int) * (R : Int) = (T : Int) := by rw [hT]; simp
        obtain ⟨X, hX⟩ : ∃ X, X = T + J := ⟨_, rfl⟩
        have eX : (T : Int) + (J : Int) = (X : Int) := by omega
        obtain ⟨V, hV⟩ : ∃ V, V = X + 1 := ⟨_, rfl⟩
        have eV : (X : Int) + 1 = (V : Int) := by omega
        obtain ⟨U, hU⟩ : ∃ U, U = (I + 1) * R := ⟨_, rfl⟩
        have eU : ((I : Int) + 1) * (R : Int) = (U : Int) := by rw [hU]; simp
        obtain ⟨Y, hY⟩ : ∃ Y, Y = U + J := ⟨_, rfl⟩
        have eY : (U : Int) + (J : Int) = (Y : Int) := by omega
        have iY : Y = (I + 1) * (b.size + 1) + J := by rw [hY, hU, HR.out.2.2.2]
        have iV : V = I * (b.size + 1) + (J + 1) := by rw [hV, hX, hT, HR.out.2.2.2]; omega
        have hll : l.length = N := by rw [HR.out.2.1.1, HR.out.2.2.1]
        have bY : Y < N := by rw [iY, HR.out.2.2.1]; exact idx_lt (by omega) (by omega)
        have bV : V < N := by rw [iV, HR.out.2.2.1]; exact idx_lt (by omega) (by omega)
        have bT : T ≤ N := by omega
        have bU : U ≤ N := by omega
        have cY := HR.out.1.cell (j := Y) (by omega)
        rw [iY, HR.out.2.1.2 (I + 1) J (by omega) (by omega) (by omega), ← iY] at cY
        have cV := HR.out.1.cell (j := V) (by omega)
        rw [iV, HR.out.2.1.2 I (J + 1) (by omega) (by omega) (by omega), ← iV] at cV
        have b1 := kp_le a b (I + 1) J
        have b2 := kp_le a b I (J + 1)
        obtain ⟨w1, hw1⟩ : ∃ w1, w1 = w.alloc (.cells #[.string a, .string b, .slice (some ⟨B, 0, none⟩) N N] 58) := ⟨_, rfl⟩
        obtain ⟨P, hP⟩ : ∃ P, P = w.heap.size := ⟨_, rfl⟩
        have hb1 : Bl w w1 := by rw [hw1]; exact (Bl.refl _).alloc _
        have hz : w1.heap[P]? = some (.cells #[.string a, .string b, .slice (some ⟨B, 0, none⟩) N N] 58 (0, 0)) := by
          rw [hw1, hP]
          show (w.heap.push _)[w.heap.size]? = _
          rw [Array.getElem?_push, if_pos rfl]
        have v0 : w1.cell? ⟨P, 0, none⟩ = some (.string a) := by rw [cell_of hz]; rfl
        have v1 : w1.cell? ⟨P, 1, none⟩ = some (.string b) := by rw [cell_of hz]; rfl
        have v2 : w1.cell? ⟨P, 2, none⟩ = some (.slice (some ⟨B, 0, none⟩) N N) := by rw [cell_of hz]; rfl
        replace cY := at_bl hb1 cY
        replace cV := at_bl hb1 cV
        have HB1 : Hid (Bl w w1) := hb1
        clear hz hb1
        have HST : Hid (if kp a b I (J + 1) ≤ kp a b (I + 1) J then nx (sf a b I J) = 2 else nx (sf a b I J) = 3) := by
          by_cases hk : kp a b I (J + 1) ≤ kp a b (I + 1) J
          · rw [sf_take' a b I J hIa hJb h3 hk]; show ite _ _ _; rw [if_pos hk]; rfl
          · obtain ⟨y, hy, _⟩ := sf_give' a b I J hIa hJb h3 hk
            rw [hy]; show ite _ _ _; rw [if_neg hk]; rfl
        clear h3 hT hX hV hU hY iY iV hll
        generalize nx (sf a b I J) = ans at HST
        generalize kp a b (I + 1) J = k1 at cY b1 HST
        generalize kp a b I (J + 1) = k2 at cV b2 HST
        by_cases hk : k2 ≤ k1
        · have hans : ans = 2 := by have := HST.out; rw [if_pos hk] at this; exact this
          have d4 : ((k2 : Int) ≤ (k1 : Int)) := by omega
          clear HST
          subst hans
          go_enter Tryd.func21, Tryd.ntmps21
          go_wp2
          rw [← hw1, ← hP]
          clear hw1 hP
          go_quiet (fail)
          go_wp2
          go_quiet (fail)
          go_wp2
          go_ret
          exact ⟨rfl, (HB1.out.trans (Dr.bl ⟨_, rfl⟩)).trans (Dr.bl ⟨_, rfl⟩)⟩
        · have hans : ans = 3 := by have := HST.out; rw [if_neg hk] at this; exact this
          have d4 : ((k1 : Int) < (k2 : Int)) := by omega
          clear HST
          subst hans
          go_enter Tryd.func21, Tryd.ntmps21
          go_wp2
          rw [← hw1, ← hP]
          clear hw1 hP
          go_quiet (fail)
          go_wp2
          go_quiet (fail)
          go_wp2
          go_ret
          exact ⟨rfl, (HB1.out.trans (Dr.bl ⟨_, rfl⟩)).trans (Dr.bl ⟨_, rfl⟩)⟩
end Go.Proofs.YtoiiphkcpdphbaaDoor.df
