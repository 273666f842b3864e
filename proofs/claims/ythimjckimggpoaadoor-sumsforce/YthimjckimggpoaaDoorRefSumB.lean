/- The document's own sum of a text: what is left of a long division. -/
import Derived.Test.YthimjckimggpoaaDoorRefSumA
import Derived.StillTailTactics
namespace Go.Proofs.YthimjckimggpoaaDoor.sums
open Go.ChangeShapes Go.WideShapes Go.ChangeAt Go.RowKit
open mem bit crc
attribute [local go_sem] World.cell?_alloc_some

theorem at_bl {w w' : World} (h : Bl w w') {a : Addr} {v : Value} (hv : w.cell? a = some v) : w'.cell? a = some v := by
  rw [Below.cell h (lt_block hv)]; exact hv
/-- The struct of a sum lies in a block. -/
def Bx (w : World) (B : Nat) (W P : Nat) (t : Bool) (I O : Nat) : Prop := (World.cell? w ⟨B, 0, none⟩ = some (.int .i64 W) ∧ World.cell? w ⟨B, 1, none⟩ = some (.int .u32 P) ∧ World.cell? w ⟨B, 2, none⟩ = some (.bool t) ∧ World.cell? w ⟨B, 3, none⟩ = some (.int .u32 I) ∧ World.cell? w ⟨B, 4, none⟩ = some (.int .u32 O))
theorem Bx.bl {w w' : World} {B W P : Nat} {t : Bool} {I O : Nat} (h : Bx w B W P t I O) (g : Bl w w') : Bx w' B W P t I O := by
  obtain ⟨h0, h1, h2, h3, h4⟩ := h
  exact ⟨at_bl g h0, at_bl g h1, at_bl g h2, at_bl g h3, at_bl g h4⟩
theorem byte_bit (s : ByteArray) (t : Bool) (i k : Nat) (hk : k < 8) (pw : Nat) (hp : 2 ^ (ib (!t) k) = pw) : (((byteN s i : Int) / (pw : Int)) % 2 == 1) = tbit s (!t) (8 * i + k) := by
  subst hp
  unfold tbit
  have e : ib (!t) (8 * i + k) = ib (!t) k := by unfold ib; rw [Nat.mul_add_mod]
  rw [show (8 * i + k) / 8 = i from by omega, e, ← Int.natCast_ediv, show (((byteN s i / 2 ^ ib (!t) k : Nat) : Int) % 2) = ((byteN s i / 2 ^ ib (!t) k % 2 : Nat) : Int) by omega, bit_nat]
  cases (byteN s i).testBit (ib (!t) k) <;> rfl
set_option maxRecDepth 4000 in
set_option maxHeartbeats 1000000 in
theorem refSumOf_yes (W P I O : Nat) (t : Bool) (s : ByteArray) (w : World) (h : Rt W P I O) (hs : s.size ≤ 200) :
    Calls Tryd.prog 5 #[.agg #[.int .i64 W, .int .u32 P, .bool t, .int .u32 I, .int .u32 O], .string s] w fun e w' => e = .returned (.tuple #[.int .u32 (sumV W P t I O s : Nat), .int .i64 0]) ∧ Bl w w' := by
  have H : Hid (Rt W P I O) := h
  have h8 := h.h8
  have h32 := h.h32
  have hri : ∀ w, Calls Tryd.prog 9 #[.agg #[.int .i64 W, .int .u32 P, .bool t, .int .u32 I, .int .u32 O]] w fun e w' => e = .returned (.bool true) ∧ Gb w w' := fun w => by
    have := refRight_is W P I O t w H.out.w H.out.p32 H.out.i32 H.out.o32
    rw [decide_eq_true H.out.odd, decide_eq_true H.out.p, decide_eq_true H.out.i, decide_eq_true H.out.o] at this
    exact this
  clear h
  go_enter Tryd.func5, Tryd.ntmps5
  go_wp2_with (first | (go_at_call 9; refine (hri _).mono ?_; rintro e w1 ⟨rfl, g1⟩))
  have hbx : Bx w1 w.heap.size W P t I O := by
    refine Bx.bl (w := w.alloc (.cells #[.int .i64 W, .int .u32 P, .bool t, .int .u32 I, .int .u32 O] 24)) ?_ g1.bl
    unfold Bx; go_simp
  have hw1 : Bl w w1 := ((Bl.refl w).alloc _).trans g1.bl
  obtain ⟨base, hbase⟩ : ∃ b, b = w1.heap.size := ⟨_, rfl⟩
  have HB : Hid (base = w1.heap.size) := hbase
  have hbw : w.heap.size + 1 ≤ base := by rw [hbase]; have := g1.size; simpa using this
  clear hri g1 hbase
  go_loopw [6, 7] (fun l i wr => ∃ k : Nat, k ≤ s.size ∧ i = .int .i64 (k : Int) ∧ Own wr base l (fun j => tbit s (!t) j) (8 * k) ∧ Bl w1 wr) (fun _ i _ => s.size - (intOf i).toNat)
  case atStart => exact ⟨0, Nat.zero_le _, rfl, World.ownsRow_nil _ _ _ _, Bl.refl _⟩
  case round =>
    rename World => wq
    obtain ⟨i, hi, rfl, hown, hbl⟩ := hrel
    by_cases hlt : i < s.size
    · have hix := run_byte (P := Tryd.prog) s i (i : Int) rfl hlt Tryd.underlying9
      go_wp2
      go_loopw [6, 8] (fun l c wr => ∃ k : Nat, k ≤ 8 ∧ c = .int .i64 (k : Int) ∧ Own wr base l (fun j => tbit s (!t) j) (8 * i + k) ∧ Bl w1 wr) (fun _ c _ => 8 - (intOf c).toNat)
      case atStart => exact ⟨0, Nat.zero_le _, rfl, hown, hbl⟩
      case round =>
        clear hown hbl
        obtain ⟨k, hk, rfl, hown, hbl⟩ := hrel
        by_cases hkt : k < 8
        · obtain ⟨d0, d1, d2, d3, d4⟩ := hbx.bl hbl
          obtain ⟨j, hj⟩ : ∃ j, j = ib (!t) k := ⟨_, rfl⟩
          obtain ⟨pw, hpw⟩ : ∃ pw, 2 ^ j = pw := ⟨_, rfl⟩
          have hj7 : j ≤ 7 := by rw [hj]; have := ib_lt (!t) k; omega
          have hp := fun w => pow2_at j pw (by omega) hpw w
          have hp0 : 0 < pw := by rw [← hpw]; exact Nat.two_pow_pos j
          have HBit := byte_bit s t i k hkt pw (by rw [← hj]; exact hpw)
          have hbn := byteN_lt s i
          obtain ⟨x, hx⟩ : ∃ x, x = byteN s i := ⟨_, rfl⟩
          rw [← hx] at HBit hbn hix
          obtain ⟨q, hq⟩ : ∃ q, q = x / pw := ⟨_, rfl⟩
          obtain ⟨b, hb⟩ : ∃ b, b = tbit s (!t) (8 * i + k) := ⟨_, rfl⟩
          have hqx : q ≤ x := by rw [hq]; exact Nat.div_le_self _ _
          have f1 : IntKind.u64.wrap (x : Int) = (x : Int) := wrap_u6 _ (by omega) (by omega)
          have f2 : (x : Int).tdiv (pw : Int) = (q : Int) := by rw [Int.tdiv_eq_ediv_of_nonneg (by omega), hq, Int.natCast_ediv]
          have f3 : IntKind.u64.wrap (q : Int) = (q : Int) := wrap_u6 _ (by omega) (by omega)
          have f4 : (q : Int).tmod 2 = ((q % 2 : Nat) : Int) := by rw [Int.tmod_eq_emod_of_nonneg (by omega)]; omega
          obtain ⟨m, hm⟩ : ∃ m, m = q % 2 := ⟨_, rfl⟩
          rw [← hm] at f4
          have f5 : IntKind.u64.wrap (m : Int) = (m : Int) := wrap_u6 _ (by omega) (by omega)
          have f6 : ((m : Int) == 1) = b := by rw [hb, ← HBit, hm, hq, Int.natCast_emod, Int.natCast_ediv]; rfl
          have f7 : ((pw : Int) == 0) = false := by rw [beq_eq_false_iff_ne]; omega
          have f8 : ¬ pw = 0 := by omega
          rename World => wr
          obtain ⟨v', w', hr, hown', hgr⟩ := app_one (wr.drew.alloc (.cells #[.bool b] 4)) base _ (fun j => tbit s (!t) j) (8 * i + k) wr.heap.size (World.ownsRow.alloc (w := wr.drew) hown _) (by rw [hb]; go_simp) (by omega) (by have := hbl.size; have := HB.out; simp; omega)
          have HR : Hid _ := hr
          have HJ : Hid (j = ib (!t) k) := hj
          clear hr hj hpw hx hq hb hm HBit
          have hjk : (t = true ∧ k = j) ∨ (t = false ∧ 7 - (k : Int) = (j : Int)) := by
            have := HJ.out
            cases t
            · right; refine ⟨rfl, ?_⟩; simp [ib] at this; omega
            · left; refine ⟨rfl, ?_⟩; simp [ib] at this; omega
          clear HJ hbx hp0
          rcases hjk with ⟨rfl, rfl⟩ | ⟨rfl, e7⟩
          · go_wp2
            go_region_held3 (fun _ => True) (trivial) (first | (go_at_call 14; refine (hp _).mono ?_; rintro e w2 ⟨rfl, rfl⟩) | (refine step_append_run rfl _ _ _ _ rfl _ _ rfl rfl _ _ HR.out ?_))
            all_goals go_wp2
            all_goals go_roundw
            all_goals first | exact ⟨k + 1, by omega, by go_num, hown', bl_grown (hbl.drew.alloc _) hgr (fun r hr => by have := (hown.lt r hr).1; have := HB.out; omega)⟩ | (simp [intOf]; omega)
          · go_wp2
            go_region_held3 (fun _ => True) (trivial) (first | (go_at_call 14; refine (hp _).mono ?_; rintro e w2 ⟨rfl, rfl⟩) | (refine step_append_run rfl _ _ _ _ rfl _ _ rfl rfl _ _ HR.out ?_))
            all_goals go_wp2
            all_goals go_roundw
            all_goals first | exact ⟨k + 1, by omega, by go_num, hown', bl_grown (hbl.drew.alloc _) hgr (fun r hr => by have := (hown.lt r hr).1; have := HB.out; omega)⟩ | (simp [intOf]; omega)
        · obtain rfl : k = 8 := by omega
          go_wp2
          go_roundw
          case rel => exact ⟨i + 1, by omega, by go_num, by rw [show 8 * (i + 1) = 8 * i + 8 from by omega]; exact hown, hbl⟩
          case measure => simp [intOf]; omega
    · obtain rfl : i = s.size := by omega
      obtain ⟨d0, d1, d2, d3, d4⟩ := hbx.bl hbl
      obtain ⟨B, cap, w2, hr, hB1, hB2, hcap, hq0, hgr⟩ := app_zeros wq base _ (fun j => tbit s (!t) j) (8 * s.size) W hown (by omega) (by omega) h32 (by have := hbl.size; have := HB.out; omega)
      have hbl2 : Bl w1 w2 := bl_grown hbl hgr (fun r hr => by have := (hown.lt r hr).1; have := HB.out; omega)
      have hq : Bq w2 B (L0 s t) (8 * s.size + W) := hq0
      obtain ⟨L, hL⟩ : ∃ L, L = 8 * s.size + W := ⟨_, rfl⟩
      rw [← hL] at hr hcap hq
      have HRr : Hid _ := hr
      have HL : Hid (L = 8 * s.size + W) := hL
      have hL2 : L ≤ 1632 := by omega
      have hLW : W ≤ L := by omega
      clear hr hgr hown hbl d1 d2 d3 d4 hq0 hL
      go_wp2_with (at_builtin; refine Lib.wpList_append_run _ rfl _ _ _ _ rfl _ _ rfl rfl _ _ HRr.out ?_)
      clear d0
      go_loopw [10] (fun c wr => ∃ k : Nat, k ≤ W ∧ c = .int .i64 (k : Int) ∧ Bq wr B (fun j => L0 s t j ^^ (decide (j < k) && I.testBit (W - 1 - j))) L ∧ Bl w1 wr) (fun c _ => W - (intOf c).toNat)
      case atStart => exact ⟨0, Nat.zero_le _, rfl, hq.congr (fun k _ => by simp), hbl2⟩
      case round =>
        rename World => wr
        obtain ⟨k, hk, rfl, hq, hbl⟩ := hrel
        obtain ⟨d0, d1, d2, d3, d4⟩ := hbx.bl hbl
        by_cases hkt : k < W
        · have hI := H.out.i32
          have hck := (hq k (by omega)).1
          have hfk := (hq k (by omega)).2
          obtain ⟨g, hg⟩ : ∃ g, g = (L0 s t k ^^ (decide (k < k) && I.testBit (W - 1 - k))) := ⟨_, rfl⟩
          dsimp only at hck
          rw [← hg] at hck
          obtain ⟨e, he⟩ : ∃ e, e = W - 1 - k := ⟨_, rfl⟩
          obtain ⟨pw, hpw⟩ : ∃ pw, 2 ^ e = pw := ⟨_, rfl⟩
          have hp := fun w => pow2_at e pw (by omega) hpw w
          have hp0 : 0 < pw := by rw [← hpw]; exact Nat.two_pow_pos e
          obtain ⟨q, hqq⟩ : ∃ q, q = I / pw := ⟨_, rfl⟩
          have hqx : q ≤ I := by rw [hqq]; exact Nat.div_le_self _ _
          obtain ⟨b, hb⟩ : ∃ b, b = I.testBit e := ⟨_, rfl⟩
          have hbit : (q % 2 = 1) ↔ b = true := by rw [hqq, ← hpw, hb, bit_nat]; cases I.testBit e <;> simp
          obtain ⟨m, hm⟩ : ∃ m, m = q % 2 := ⟨_, rfl⟩
          have g1 : IntKind.i64.wrap ((W : Int) - 1) = (W : Int) - 1 := wrap_i _ (by omega) (by omega)
          have g2 : IntKind.i64.wrap ((W : Int) - 1 - (k : Int)) = (e : Int) := (wrap_i _ (by omega) (by omega)).trans (by omega)
          have f1 : IntKind.u64.wrap (I : Int) = (I : Int) := wrap_u6 _ (by omega) (by omega)
          have f2 : (I : Int).tdiv (pw : Int) = (q : Int) := by rw [Int.tdiv_eq_ediv_of_nonneg (by omega), hqq, Int.natCast_ediv]
          have f3 : IntKind.u64.wrap (q : Int) = (q : Int) := wrap_u6 _ (by omega) (by omega)
          have f4 : (q : Int).tmod 2 = (m : Int) := by rw [Int.tmod_eq_emod_of_nonneg (by omega), hm]; omega
          have f5 : IntKind.u64.wrap (m : Int) = (m : Int) := wrap_u6 _ (by omega) (by omega)
          have f6 : ((m : Int) == 1) = b := by
            rw [hm, Bool.eq_iff_iff, beq_iff_eq, ← hbit]; omega
          have f7 : ((pw : Int) == 0) = false := by rw [beq_eq_false_iff_ne]; omega
          have f8 : ¬ pw = 0 := by omega
          have i0 : (k : Int) < (L : Int) := by omega
          have i1 : k < L := by omega
          have HG : Hid (g = (L0 s t k ^^ (decide (k < k) && I.testBit (W - 1 - k)))) := hg
          have HE : Hid (b = I.testBit (W - 1 - k)) := by rw [hb, he]; exact rfl
          clear hg he hpw hqq hbit hb hm hbx
          go_wp2
          refine wp_region_still_tail 19 (by kernel_rfl) (by kernel_rfl) ?_
          change wpStill _ _ wr.drew (fun a' => wpList _ _ _ _ a' wr.drew) _ _
          simp only [List.take_succ_cons, List.take_zero, List.drop_succ_cons, List.drop_zero]
          iterate 14 still_step
          still_call (hp _)
          iterate 4 still_step
          refine wpStill_nil ?_
          go_wp2
          go_roundw
          case rel => exact ⟨k + 1, by omega, by go_num, by
            refine Bq.drew (hq.set k _ i1 ?_ (fun j _ hj => ?_))
            · rw [HG.out, HE.out, decide_eq_true (show k < k + 1 by omega), decide_eq_false (show ¬ k < k by omega)]
              cases L0 s t k <;> cases I.testBit (W - 1 - k) <;> rfl
            · rw [show decide (j < k + 1) = decide (j < k) from decide_eq_decide.2 (by omega)], (hbl.setCell (by have := HB.out; simp; omega) _).drew⟩
          case measure => simp [intOf]; omega
        · obtain rfl : W = k := by omega
          clear d1 d2 d3 d4
          go_wp2
          go_loopw [11] (fun c wr => ∃ (i : Nat) (g : Nat → Bool), i + W ≤ L ∧ c = .int .i64 (i : Int) ∧ Bq wr B g L ∧ Hid (∀ j, i ≤ j → j < L → g j = LD W P I s t i j) ∧ Bl w1 wr) (fun c _ => L - (intOf c).toNat)
          case atStart => exact ⟨0, _, by omega, rfl, hq, fun j _ hj => by
            unfold LD
            rw [show decide (0 ≤ j ∧ j < 0 + W) = decide (j < W) from decide_eq_decide.2 (by omega), Nat.sub_zero]
            rfl, hbl⟩
          case round =>
            clear hq hbl d0
            rename World => wr
            obtain ⟨i, g, hiL, rfl, hq, HLD, hbl⟩ := hrel
            obtain ⟨d0, d1, d2, d3, d4⟩ := hbx.bl hbl
            by_cases hit : i + W < L
            · have hi8 : i < 8 * s.size := by have := HL.out; omega
              have hci := (hq i (by omega)).1
              have i0 : (i : Int) < (L : Int) := by omega
              have i1 : i < L := by omega
              have idd : decide ((i : Int) + (W : Int) < (L : Int)) = true := by rw [decide_eq_true_iff]; omega
              cases hgi : g i
              · rw [hgi] at hci
                go_wp2
                go_roundw
                case rel => exact ⟨i + 1, g, by omega, by go_num, hq, fun j hj hjL => by
                  rw [LD_step W P I s t i j (by omega) hi8 hj, ← HLD.out i (Nat.le_refl _) i1, hgi, HLD.out j (by omega) hjL]; simp, hbl⟩
                case measure => simp [intOf]; omega
              · rw [hgi] at hci
                clear d1 d2 d3 d4
                go_wp2
                go_loopw [12] (fun c wr => ∃ k : Nat, k ≤ W ∧ c = .int .i64 (k : Int) ∧ Bq wr B (fun j => g j ^^ (decide (i + 1 ≤ j ∧ j < i + 1 + k) && P.testBit (W - 1 - (j - (i + 1))))) L ∧ Bl w1 wr) (fun c _ => W - (intOf c).toNat)
                case atStart => exact ⟨0, Nat.zero_le _, rfl, hq.congr (fun j _ => by rw [decide_eq_false (by omega)]; simp), hbl⟩
                case round =>
                  clear hq hbl d0 hci
                  rename World => wr
                  obtain ⟨k, hk, rfl, hq, hbl⟩ := hrel
                  obtain ⟨d0, d1, d2, d3, d4⟩ := hbx.bl hbl
                  by_cases hkt : k < W
                  · have hP := H.out.p32
                    obtain ⟨c, hc⟩ : ∃ c, c = i + 1 + k := ⟨_, rfl⟩
                    have hcL : c < L := by omega
                    have hck := (hq c hcL).1
                    have hfk := (hq c hcL).2
                    obtain ⟨y, hy⟩ : ∃ y, y = (g c ^^ (decide (i + 1 ≤ c ∧ c < i + 1 + k) && P.testBit (W - 1 - (c - (i + 1))))) := ⟨_, rfl⟩
                    dsimp only at hck
                    rw [← hy] at hck
                    obtain ⟨e, he⟩ : ∃ e, e = W - 1 - k := ⟨_, rfl⟩
                    obtain ⟨pw, hpw⟩ : ∃ pw, 2 ^ e = pw := ⟨_, rfl⟩
                    have hp := fun w => pow2_at e pw (by omega) hpw w
                    have hp0 : 0 < pw := by rw [← hpw]; exact Nat.two_pow_pos e
                    obtain ⟨q, hqq⟩ : ∃ q, q = P / pw := ⟨_, rfl⟩
                    have hqx : q ≤ P := by rw [hqq]; exact Nat.div_le_self _ _
                    obtain ⟨b, hb⟩ : ∃ b, b = P.testBit e := ⟨_, rfl⟩
                    have hbit : (q % 2 = 1) ↔ b = true := by rw [hqq, ← hpw, hb, bit_nat]; cases P.testBit e <;> simp
                    obtain ⟨m, hm⟩ : ∃ m, m = q % 2 := ⟨_, rfl⟩
                    have g0 : IntKind.i64.wrap ((i : Int) + 1) = (i : Int) + 1 := wrap_i _ (by omega) (by omega)
                    have g3 : IntKind.i64.wrap ((i : Int) + 1 + (k : Int)) = (c : Int) := (wrap_i _ (by omega) (by omega)).trans (by omega)
                    have g1 : IntKind.i64.wrap ((W : Int) - 1) = (W : Int) - 1 := wrap_i _ (by omega) (by omega)
                    have g2 : IntKind.i64.wrap ((W : Int) - 1 - (k : Int)) = (e : Int) := (wrap_i _ (by omega) (by omega)).trans (by omega)
                    have f1 : IntKind.u64.wrap (P : Int) = (P : Int) := wrap_u6 _ (by omega) (by omega)
                    have f2 : (P : Int).tdiv (pw : Int) = (q : Int) := by rw [Int.tdiv_eq_ediv_of_nonneg (by omega), hqq, Int.natCast_ediv]
                    have f3 : IntKind.u64.wrap (q : Int) = (q : Int) := wrap_u6 _ (by omega) (by omega)
                    have f4 : (q : Int).tmod 2 = (m : Int) := by rw [Int.tmod_eq_emod_of_nonneg (by omega), hm]; omega
                    have f5 : IntKind.u64.wrap (m : Int) = (m : Int) := wrap_u6 _ (by omega) (by omega)
                    have f6 : ((m : Int) == 1) = b := by
                      rw [hm, Bool.eq_iff_iff, beq_iff_eq, ← hbit]; omega
                    have f7 : ((pw : Int) == 0) = false := by rw [beq_eq_false_iff_ne]; omega
                    have f8 : ¬ pw = 0 := by omega
                    have j0 : (c : Int) < (L : Int) := by omega
                    have HY : Hid (y = (g c ^^ (decide (i + 1 ≤ c ∧ c < i + 1 + k) && P.testBit (W - 1 - (c - (i + 1)))))) := hy
                    have HE : Hid (b = P.testBit (W - 1 - k)) := by rw [hb, he]; exact rfl
                    have HC : Hid (c = i + 1 + k) := hc
                    clear hy he hpw hqq hbit hb hm hbx hc
                    go_wp2
                    refine wp_region_still_tail 25 (by kernel_rfl) (by kernel_rfl) ?_
                    change wpStill _ _ wr.drew (fun a' => wpList _ _ _ _ a' wr.drew) _ _
                    simp only [List.take_succ_cons, List.take_zero, List.drop_succ_cons, List.drop_zero]
                    iterate 20 still_step
                    still_call (hp _)
                    iterate 4 still_step
                    refine wpStill_nil ?_
                    go_wp2
                    go_roundw
                    case rel => exact ⟨k + 1, by omega, by go_num, by
                      refine Bq.drew (hq.set c _ hcL ?_ (fun j _ hj => ?_))
                      · have hc := HC.out
                        rw [HY.out, HE.out, decide_eq_true (show i + 1 ≤ c ∧ c < i + 1 + (k + 1) by omega), decide_eq_false (show ¬ (i + 1 ≤ c ∧ c < i + 1 + k) by omega), show c - (i + 1) = k from by omega]
                        cases g c <;> cases P.testBit (W - 1 - k) <;> rfl
                      · have hc := HC.out
                        rw [show decide (i + 1 ≤ j ∧ j < i + 1 + (k + 1)) = decide (i + 1 ≤ j ∧ j < i + 1 + k) from decide_eq_decide.2 (by omega)], (hbl.setCell (by have := HB.out; simp; omega) _).drew⟩
                    case measure => simp [intOf]; omega
                  · obtain rfl : W = k := by omega
                    go_wp2
                    go_roundw
                    case rel => exact ⟨i + 1, _, by omega, by go_num, hq, fun j hj hjL => by
                      rw [LD_step W P I s t i j (by omega) hi8 hj, ← HLD.out i (Nat.le_refl _) i1, hgi, HLD.out j (by omega) hjL]
                      simp, hbl⟩
                    case measure => simp [intOf]; omega
            · have HI : Hid (i = 8 * s.size) := by have := HL.out; show _ = _; omega
              have idd : decide ((i : Int) + (W : Int) < (L : Int)) = false := by rw [decide_eq_false_iff_not]; omega
              have ls : (L : Int) - (W : Int) = (i : Int) := by omega
              have hiW : i + W = L := by omega
              have hic : i < cap := by omega
              have HW : Hid (L = i + W) := hiW.symm
              clear hit hiL hiW d1 d3 hbl2
              go_wp2
              go_loop [13, 130] (fun r c => ∃ k : Nat, k ≤ W ∧ c = .int .i64 (k : Int) ∧ r = .int .u64 (hb (fun j => g (i + j)) k : Nat)) (fun _ c => W - (intOf c).toNat)
              case atStart => exact ⟨0, Nat.zero_le _, rfl, rfl⟩
              case round =>
                obtain ⟨k, hk, rfl, rfl⟩ := hrel
                have hrl : hb (fun j => g (i + j)) k < 4294967296 := Nat.lt_of_lt_of_le (hb_lt _ k) (le32 k (by omega))
                by_cases hkt : k < W
                · have hck := (hq (i + k) (by have := HW.out; omega)).1
                  have HH : Hid (hb (fun j => g (i + j)) (k + 1) = hb (fun j => g (i + j)) k * 2 + (g (i + k)).toNat) := rfl
                  obtain ⟨r, hr⟩ : ∃ r, r = hb (fun j => g (i + j)) k := ⟨_, rfl⟩
                  rw [← hr] at hrl HH ⊢
                  clear hr
                  have ho := fun w => one_at (g (i + k)) w
                  obtain ⟨b, hb⟩ : ∃ b, b = g (i + k) := ⟨_, rfl⟩
                  rw [← hb] at hck HH ho
                  clear hb
                  go_wp2_with (go_at_call 15; refine (ho _).mono ?_; rintro e v1 ⟨rfl, rfl⟩)
                  go_round
                  case rel => exact ⟨k + 1, by omega, by go_num, by rw [HH.out]; cases b <;> simp⟩
                  case measure => simp [intOf]; omega
                · obtain rfl : W = k := by omega
                  have HF : Hid (hb (fun j => g (i + j)) W = fr W P t s I s.size) := by
                    show _ = _
                    rw [fr_R W P t s I s.size h8, ← hb_self W (R W P (fun i => tbit s (!t) i) I (8 * s.size)) (R_lt W P _ I _ H.out.i)]
                    exact hb_congr _ _ W (fun j hj => by
                      have h1 := HW.out
                      have h2 := HI.out
                      rw [HLD.out (i + j) (by omega) (by omega), h2]
                      exact LD_end W P I s t j hj)
                  rw [HF.out] at hrl ⊢
                  obtain ⟨r, hr⟩ : ∃ r, r = fr W P t s I s.size := ⟨_, rfl⟩
                  have HR2 : Hid (r = fr W P t s I s.size) := hr
                  rw [← hr] at hrl ⊢
                  clear hr HF hq
                  have hO := H.out.o32
                  have hrev : rev W r < 4294967296 := Nat.lt_of_lt_of_le (rev_lt W r) (le32 W h32)
                  have hfl := fun w => flips_at r W w hrl h32
                  cases t
                  · go_wp2
                    go_ret2
                    refine ⟨?_, hw1.trans hbl⟩
                    rw [sumV, ← HR2.out]
                    show Ending.returned (.tuple #[.int .u32 (bits .xor .u32 (r : Int) (O : Int)), .int .i64 0]) = _
                    rw [u32_xor_nat _ _ hrl hO]
                    rfl
                  · go_wp2_with (go_at_call 16; refine (hfl _).mono ?_; rintro e v1 ⟨rfl, rfl⟩)
                    go_ret2
                    refine ⟨?_, hw1.trans hbl⟩
                    rw [sumV, ← HR2.out]
                    show Ending.returned (.tuple #[.int .u32 (bits .xor .u32 ((rev W r : Nat) : Int) (O : Int)), .int .i64 0]) = _
                    rw [u32_xor_nat _ _ hrev hO]
                    rfl
end Go.Proofs.YthimjckimggpoaaDoor.sums
