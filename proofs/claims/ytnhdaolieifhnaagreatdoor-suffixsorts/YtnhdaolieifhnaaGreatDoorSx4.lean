/- What ranked of package suffix answers. -/
import Derived.Test.YtnhdaolieifhnaaGreatDoorSx3
import Derived.Laws.StructEq
namespace Go.Proofs.YtnhdaolieifhnaaGreatDoor.sx
set_option linter.unusedVariables false
open Go.ChangeShapes Go.WideShapes Go.ChangeAt Go.RowKit
open mem rows fd

theorem eqKey (p1 p2 q1 q2 : Int) (w : World) : (Op.equalIn 10000 49 (.agg #[.int .i64 p1, .int .i64 p2]) (.agg #[.int .i64 q1, .int .i64 q2])).run Tryz.prog w = .ok (p1 == q1 && p2 == q2) w := by
  have h1 : ∀ w, (part 3 #[.int .i64 p1, .int .i64 p2] 0).run Tryz.prog w = .ok (.int .i64 p1) w := fun w => by kernel_rfl
  have h2 : ∀ w, (part 3 #[.int .i64 p1, .int .i64 p2] 1).run Tryz.prog w = .ok (.int .i64 p2) w := fun w => by kernel_rfl
  have h3 : ∀ w, (part 3 #[.int .i64 q1, .int .i64 q2] 0).run Tryz.prog w = .ok (.int .i64 q1) w := fun w => by kernel_rfl
  have h4 : ∀ w, (part 3 #[.int .i64 q1, .int .i64 q2] 1).run Tryz.prog w = .ok (.int .i64 q2) w := fun w => by kernel_rfl
  have hs : ∀ w, (Go.sizeOf 3).run Tryz.prog w = .ok 1 w := fun w => by kernel_rfl
  have e1 := fun w => run_equalIn_int (P := Tryz.prog) w 9998 3 .i64 .i64 p1 q1 Tryz.underlying3
  have e2 := fun w => run_equalIn_int (P := Tryz.prog) w 9998 3 .i64 .i64 p2 q2 Tryz.underlying3
  rw [show (10000 : Nat) = 9999 + 1 from rfl]
  rw [Op.equalIn]
  simp only [Sem.run_bind, run_underlying Tryz.underlying49, Result.andThen_ok, hs]
  rw [Std.Legacy.Range.forIn_eq_forIn_range']
  simp [Std.Legacy.Range.size, List.range', h1, h2, h3, h4, e1, e2]
  by_cases a : p1 = q1
  · by_cases b : p2 = q2
    · simp [a, b]
    · have : (p2 == q2) = false := by rw [beq_eq_false_iff_ne]; exact b
      simp [a, b, this]
  · have : (p1 == q1) = false := by rw [beq_eq_false_iff_ne]; exact a
    simp [a, this]
theorem neKey (p1 p2 q1 q2 : Int) (b : Bool) (h : (p1 == q1 && p2 == q2) = !b) (w : World) : (binOp .neq 49 (.agg #[.int .i64 p1, .int .i64 p2]) (.agg #[.int .i64 q1, .int .i64 q2])).run Tryz.prog w = .ok (.bool b) w := by
  rw [run_neq_struct, eqKey, h]
  simp
/-- The rank that was told last. -/
def crk (Kf : Nat → Int × Int) : Nat → Nat
  | 0 => 0
  | k + 1 => cnt Kf k
/-- The first k of the ends in order have their ranks. -/
def Rs (L : List Nat) (Kf : Nat → Int × Int) (N k : Nat) (rs : List Int) : Prop := rs.length = N ∧ ∀ j, j < k → rs.getD (L.getD j 0) 0 = ((cnt Kf j : Nat) : Int)
theorem Rs.next {L : List Nat} {Kf : Nat → Int × Int} {N k : Nat} {rs : List Int} (h : Rs L Kf N k rs) (hp : L.Perm (List.range N)) (hk : k < N) : Rs L Kf N (k + 1) (rs.set (L.getD k 0) ((cnt Kf k : Nat) : Int)) := by
  have hlen : L.length = N := by have := hp.length_eq; rwa [List.length_range] at this
  have hL : ∀ k, k < N → L.getD k 0 < N := fun k hk => by
    have : L.getD k 0 ∈ L := by simp [show k < L.length by omega]
    exact List.mem_range.1 (hp.mem_iff.1 this)
  have hnd : L.Nodup := hp.nodup_iff.2 List.nodup_range
  refine ⟨by rw [List.length_set]; exact h.1, fun j hj => ?_⟩
  rcases Nat.lt_or_ge j k with h1 | h1
  · have hne : L.getD k 0 ≠ L.getD j 0 := by
      intro e
      have h4 : L[j]'(by omega) = L[k]'(by omega) := by simpa [show j < L.length by omega, show k < L.length by omega] using e.symm
      exact (List.pairwise_iff_getElem.1 (List.nodup_iff_pairwise_ne.1 hnd) j k (by omega) (by omega) h1) h4
    rw [List.getD_eq_getElem?_getD, List.getElem?_set_ne hne, ← List.getD_eq_getElem?_getD]
    exact h.2 j h1
  · obtain rfl : j = k := by omega
    rw [List.getD_eq_getElem?_getD, List.getElem?_set_self (by rw [h.1]; exact hL _ hk)]
    rfl
theorem crk_next (Kf : Nat → Int × Int) (k : Nat) (h : Kf (k + 1) = Kf k) : crk Kf (k + 1 + 1) = crk Kf (k + 1) := by
  show cnt Kf (k + 1) = cnt Kf k
  rw [cnt, if_pos h]
  rfl
theorem crk_more (Kf : Nat → Int × Int) (k : Nat) (h : Kf (k + 1) ≠ Kf k) : crk Kf (k + 1 + 1) = crk Kf (k + 1) + 1 := by
  show cnt Kf (k + 1) = cnt Kf k + 1
  rw [cnt, if_neg h]
set_option maxRecDepth 10000 in
theorem ranked_at (v : Value) (L : List Nat) (r : Nat → Int) (N n K : Nat) (w : World) (hN : N ≤ 4000) (hv : View w v (ints L)) (hp : L.Perm (List.range N)) (hK : RowK w K (tab (kf r N n) (N * 2))) :
    Calls Tryz.prog 21 #[v, .slice (some ⟨K, 0, none⟩) N N] w fun e w' => ∃ R, e = .returned (.tuple #[.slice (some ⟨R, 0, none⟩) N N, .int .i64 ((crk (fun k => kk r N n (L.getD k 0)) N : Nat) : Int)]) ∧ w.heap.size ≤ R ∧ Bl w w' ∧
      ∃ rs, RowI w' R rs ∧ Rs L (fun k => kk r N n (L.getD k 0)) N N rs := by
  have hlen : L.length = N := by have := hp.length_eq; rwa [List.length_range] at this
  have hL : ∀ k, k < N → L.getD k 0 < N := fun k hk => by
    have : L.getD k 0 ∈ L := by simp [show k < L.length by omega]
    exact List.mem_range.1 (hp.mem_iff.1 this)
  obtain ⟨p, c, rfl, hq⟩ := hv
  rw [ints_len, hlen]
  have HP : Hid (In w p (ints L)) := hq
  have HL : Hid (∀ k, k < N → L.getD k 0 < N) := hL
  have HPm : Hid (L.Perm (List.range N)) := hp
  have HLen : Hid (L.length = N) := hlen
  have HKK : Hid (RowK w K (tab (kf r N n) (N * 2))) := hK
  have hmk := fun w => run_make_row' (P := Tryz.prog) 22 3 (.int .i64 0) 8 Tryz.underlying22 infoI rfl .i64 .i64 N (by omega) (by omega) w
  obtain ⟨R, hR⟩ : ∃ R, R = w.heap.size := ⟨_, rfl⟩
  obtain ⟨W, hW⟩ : ∃ W, W = w.alloc (.cells (madeCells #[.int .i64 0] N) 3) := ⟨_, rfl⟩
  have h1 : RowI W R (List.replicate N 0) := by rw [hW, hR]; exact RowI.made w N
  have hb : Bl w W := by rw [hW]; exact (Bl.refl w).alloc _
  have HW : Hid (W = w.alloc (.cells (madeCells #[.int .i64 0] N) 3)) := hW
  have HR : Hid (R = w.heap.size) := hR
  have H : Hid (RowI W R (List.replicate N 0) ∧ Bl w W) := ⟨h1, hb⟩
  obtain ⟨Kf, hKf⟩ : ∃ Kf, Kf = fun k => kk r N n (L.getD k 0) := ⟨_, rfl⟩
  rw [← hKf]
  have HKf : Hid (Kf = fun k => kk r N n (L.getD k 0)) := hKf
  clear hW hR h1 hb hq hlen hL hp hK hKf
  go_enter Tryz.func21, Tryz.ntmps21
  go_wp2
  rw [← HW.out, ← HR.out]
  go_loopw [7, 15] (fun rv i wr => ∃ (k : Nat) (rs : List Int), k ≤ N ∧ i = .int .i64 (k : Int) ∧ rv = .int .i64 ((crk Kf k : Nat) : Int) ∧ RowI wr R rs ∧ Rs L Kf N k rs ∧ Bl w wr) (fun _ i _ => N - (intOf i).toNat)
  case atStart => exact ⟨0, _, Nat.zero_le _, rfl, rfl, H.out.1, ⟨by simp, fun j hj => absurd hj (Nat.not_lt_zero _)⟩, H.out.2⟩
  case round =>
    obtain ⟨k, rs, hk, rfl, rfl, hr1, hrs, hbl⟩ := hrel
    by_cases hlt : k < N
    · have hlz : (k : Int) < (N : Int) := by omega
      obtain ⟨x, rfl, cx⟩ := (HP.out.step hbl).at k (by rw [ints_len, HLen.out]; exact hlt)
      rw [ints_at] at cx
      have hLk := HL.out k hlt
      have hnx := hrs.next HPm.out hlt
      have hrk := HKK.out.step hbl
      have hle : ((cnt Kf k : Nat) : Int) ≤ 4000 := by have := cnt_le Kf k; omega
      have hle2 : ((crk Kf k : Nat) : Int) ≤ 4000 := by
        cases k with
        | zero => simp [crk]
        | succ k => have := cnt_le Kf k; simp [crk]; omega
      obtain ⟨a, ha⟩ : ∃ a, a = L.getD k 0 := ⟨_, rfl⟩
      rw [← ha] at cx hLk hnx
      have hf := hr1.frozen a
      have hc := hr1.cell (j := a) (by rw [hrs.1]; exact hLk)
      have hset := hr1.set a ((cnt Kf k : Nat) : Int)
      have ia : 0 ≤ (a : Int) ∧ (a : Int) < (N : Int) := by omega
      rcases Nat.eq_zero_or_pos k with h0 | h0
      · have i1 : ((k : Int) == 0) = true := by rw [beq_iff_eq]; omega
        have e1 : crk Kf k + 1 = crk Kf (k + 1) := by rw [h0]; rfl
        have e2 : cnt Kf k = crk Kf (k + 1) := rfl
        rw [e2] at hset hnx hle
        obtain ⟨m, hm⟩ : ∃ m, m = crk Kf k := ⟨_, rfl⟩
        obtain ⟨m', hm'⟩ : ∃ m', m' = crk Kf (k + 1) := ⟨_, rfl⟩
        rw [← hm, ← hm'] at e1
        rw [← hm] at hle2 ⊢
        rw [← hm'] at hle hset hnx
        have e3 : (m : Int) + 1 = (m' : Int) := by omega
        have HM : Hid (m' = crk Kf (k + 1)) := hm'
        generalize rs.getD a 0 = y at hc
        have HS : Hid (RowI (wr.setCell ⟨R, a, none⟩ (.int .i64 (m' : Int))) R (rs.set a (m' : Int))) := hset
        have HN : Hid (Rs L Kf N (k + 1) (rs.set a (m' : Int))) := hnx
        have hB : Bl w (wr.setCell ⟨R, a, none⟩ (.int .i64 (m' : Int))) := hbl.setCell (by rw [HR.out]; exact Nat.le_refl _) _
        clear h0 e2 hset hnx hr1 hrs ha hm hm' e1 hrk
        go_wp2
        go_quiet (fail)
        go_wp2
        go_roundw
        case rel => exact ⟨k + 1, _, hlt, by go_num, by rw [HM.out], HS.out, HN.out, hB.drewN _⟩
        case measure => simp [intOf]; omega
      · obtain ⟨j, hj⟩ : ∃ j, k = j + 1 := ⟨k - 1, by omega⟩
        obtain ⟨x', hx, cx2⟩ := (HP.out.step hbl).at j (by rw [ints_len, HLen.out]; omega)
        obtain rfl : x = x' := by simpa using hx
        rw [ints_at] at cx2
        have hLj := HL.out j (by omega)
        obtain ⟨b, hb⟩ : ∃ b, b = L.getD j 0 := ⟨_, rfl⟩
        rw [← hb] at cx2 hLj
        have ka0 := hrk.cell (j := a * 2) (by rw [tab_len]; omega)
        have ka1 := hrk.cell (j := a * 2 + 1) (by rw [tab_len]; omega)
        have kb0 := hrk.cell (j := b * 2) (by rw [tab_len]; omega)
        have kb1 := hrk.cell (j := b * 2 + 1) (by rw [tab_len]; omega)
        rw [tab_at _ _ _ (by omega)] at ka0 ka1 kb0 kb1
        rw [kf_even] at ka0 kb0
        rw [kf_odd] at ka1 kb1
        have ib : 0 ≤ (b : Int) ∧ (b : Int) < (N : Int) := by omega
        have i1 : ((k : Int) == 0) = false := by rw [beq_eq_false_iff_ne]; omega
        have i2 : (k : Int) - 1 = (j : Int) := by omega
        have i3 : IntKind.i64.wrap (j : Int) = (j : Int) := by rw [IntKind.wrap_i64]; omega
        have i4 : 0 ≤ (j : Int) ∧ (j : Int) < (N : Int) := by omega
        have e2 : cnt Kf k = crk Kf (k + 1) := rfl
        rw [e2] at hset hnx hle
        have hE : Kf k = (r a, k2 r N n a) ∧ Kf j = (r b, k2 r N n b) := by rw [HKf.out, ha, hb]; exact ⟨rfl, rfl⟩
        have hcn : Kf k = Kf j → crk Kf (k + 1) = crk Kf k := fun e => by rw [hj] at e ⊢; exact crk_next Kf j e
        have hcm : Kf k ≠ Kf j → crk Kf (k + 1) = crk Kf k + 1 := fun e => by rw [hj] at e ⊢; exact crk_more Kf j e
        rw [hE.1, hE.2] at hcn hcm
        obtain ⟨m, hm⟩ : ∃ m, m = crk Kf k := ⟨_, rfl⟩
        obtain ⟨m', hm'⟩ : ∃ m', m' = crk Kf (k + 1) := ⟨_, rfl⟩
        rw [← hm, ← hm'] at hcn hcm
        rw [← hm] at hle2 ⊢
        rw [← hm'] at hle hset hnx
        have HM : Hid (m' = crk Kf (k + 1)) := hm'
        generalize rs.getD a 0 = y at hc
        have HS : Hid (RowI (wr.setCell ⟨R, a, none⟩ (.int .i64 (m' : Int))) R (rs.set a (m' : Int))) := hset
        have HN : Hid (Rs L Kf N (k + 1) (rs.set a (m' : Int))) := hnx
        have hB : Bl w (wr.setCell ⟨R, a, none⟩ (.int .i64 (m' : Int))) := hbl.setCell (by rw [HR.out]; exact Nat.le_refl _) _
        clear e2 hset hnx hr1 hrs ha hb hrk hx hE hm hm' hj h0
        generalize r a = p1 at *
        generalize k2 r N n a = p2 at *
        generalize r b = q1 at *
        generalize k2 r N n b = q2 at *
        by_cases he : (p1, p2) = (q1, q2)
        · have e3 := hcn he
          have hb1 : (p1 == q1 && p2 == q2) = !false := by simp at he; simp [he]
          have hne := neKey p1 p2 q1 q2 false hb1
          subst e3
          clear hcn hcm he hb1
          go_wp2
          go_quiet (fail)
          go_wp2
          go_roundw
          case rel => exact ⟨k + 1, _, hlt, by go_num, by rw [HM.out], HS.out, HN.out, hB.drewN _⟩
          case measure => simp [intOf]; omega
        · have e3 : (m : Int) + 1 = (m' : Int) := by have := hcm he; omega
          have hb1 : (p1 == q1 && p2 == q2) = !true := by simp at he; simpa using he
          have hne := neKey p1 p2 q1 q2 true hb1
          clear hcn hcm he hb1
          go_wp2
          go_quiet (fail)
          go_wp2
          go_roundw
          case rel => exact ⟨k + 1, _, hlt, by go_num, by rw [HM.out], HS.out, HN.out, hB.drewN _⟩
          case measure => simp [intOf]; omega
    · have hnl : ¬ ((k : Int) < (N : Int)) := by omega
      have HKn : Hid (k = N) := by unfold Hid; omega
      go_wp2
      go_ret2
      rw [HKn.out] at hrs ⊢
      exact ⟨R, rfl, by rw [HR.out]; exact Nat.le_refl _, hbl, rs, hr1, hrs⟩
end Go.Proofs.YtnhdaolieifhnaaGreatDoor.sx
