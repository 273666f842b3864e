/- Widen: the very real of 64 bits, as package real has it: the road through it. -/
import Derived.Test.YtnhekkahiphlgaaDoorReal7
namespace Go.Proofs.YtnhekkahiphlgaaDoor.rl
open Go.RowKit
open mem flt
attribute [local go_sem] World.cell?_alloc_some
/-- The magnitude of 64 bits of the real that 32 bits are. -/
def wid (m : Nat) : Nat := if 255 * 2 ^ 23 ≤ m then 2047 * 2 ^ 52 + (m - 255 * 2 ^ 23) * 2 ^ 29 else if 2 ^ 23 ≤ m then m * 2 ^ 29 + 896 * 2 ^ 52 else if m = 0 then 0 else (897 - (23 - m.log2)) * 2 ^ 52 + (m * 2 ^ (23 - m.log2) - 2 ^ 23) * 2 ^ 29
def widW (b : Nat) : Nat := (if b / 2 ^ 31 % 2 == 1 then 2 ^ 63 else 0) + wid (b % 2 ^ 31)
theorem wid_top (x f : Nat) (hx : x = 255) : wid (x * 2 ^ 23 + f) = 2047 * 2 ^ 52 + f * 2 ^ 29 := by
  unfold wid
  rw [if_pos (by omega)]
  omega
theorem wid_mid (x f : Nat) (hx : 0 < x) (hx' : x < 255) (hf : f < 2 ^ 23) : wid (x * 2 ^ 23 + f) = (x + 896) * 2 ^ 52 + f * 2 ^ 29 := by
  unfold wid
  rw [if_neg (by omega), if_pos (by omega)]
  omega
theorem wid_zero (x f : Nat) (hx : x = 0) (hf : f = 0) : wid (x * 2 ^ 23 + f) = 0 := by
  subst hx hf
  rfl
theorem wid_tiny (x f j z : Nat) (hx : x = 0) (h0 : 0 < f) (hf : f < 2 ^ 23) (hj : j = 23 - f.log2) (hz : z = f * 2 ^ j - 2 ^ 23) : wid (x * 2 ^ 23 + f) = (897 - j) * 2 ^ 52 + z * 2 ^ 29 := by
  subst hx
  rw [Nat.zero_mul, Nat.zero_add]
  unfold wid
  rw [if_neg (by omega), if_neg (by omega), if_neg (by omega), hz, hj]
theorem tiny_log (f j : Nat) (h0 : 0 < f) (hf : f < 2 ^ 23) (hj : j = 23 - f.log2) : j ≤ 23 ∧ 1 ≤ j ∧ 2 ^ 23 ≤ f * 2 ^ j ∧ f * 2 ^ j < 2 ^ 24 := by
  have h1 : 2 ^ f.log2 ≤ f := Nat.log2_self_le (by omega)
  have h2 : f < 2 ^ (f.log2 + 1) := Nat.lt_log2_self
  have h3 : f.log2 < 23 := (Nat.log2_lt (by omega)).2 hf
  have e1 : 2 ^ 23 = 2 ^ f.log2 * 2 ^ j := pow_split _ _ _ (by omega)
  have e2 : 2 ^ 24 = 2 ^ (f.log2 + 1) * 2 ^ j := pow_split _ _ _ (by omega)
  refine ⟨by omega, by omega, ?_, ?_⟩
  · rw [e1]; exact le_mul_pow h1
  · rw [e2]; exact lt_mul_pow h2
theorem middle32g (w : World) : Calls Tryd.prog 37 #[.agg #[.int .i64 32, .int .i64 8, .int .i64 23]] w fun e w' => e = .returned (.int .i64 127) ∧ Gb w w' :=
  (middle32 w).mono fun e w' h => ⟨h.1, by rw [h.2]; exact Gb.alloc (Gb.alloc (Gb.refl w) _ _) _ _⟩
theorem middle64g (w : World) : Calls Tryd.prog 37 #[.agg #[.int .i64 64, .int .i64 11, .int .i64 52]] w fun e w' => e = .returned (.int .i64 1023) ∧ Gb w w' :=
  (middle64 w).mono fun e w' h => ⟨h.1, by rw [h.2]; exact Gb.alloc (Gb.alloc (Gb.refl w) _ _) _ _⟩
theorem lastExp64g (w : World) : Calls Tryd.prog 27 #[.agg #[.int .i64 64, .int .i64 11, .int .i64 52]] w fun e w' => e = .returned (.int .i64 2047) ∧ Gb w w' :=
  (lastExp64 w).mono fun e w' h => ⟨h.1, by rw [h.2]; exact Gb.alloc (Gb.refl w) _ _⟩
theorem Two.set {w : World} {p q R : Nat} (h : Two w p q) (np : p ≠ R) (nq : q ≠ R) (i : Nat) (v : Value) : Two (w.setCell ⟨R, i, none⟩ v) p q := by
  obtain ⟨h0, h1, h2, h3, h4, h5⟩ := h
  exact ⟨by rw [World.cell?_setCell_far _ _ _ _ np.symm]; exact h0, by rw [World.cell?_setCell_far _ _ _ _ np.symm]; exact h1, by rw [World.cell?_setCell_far _ _ _ _ np.symm]; exact h2,
    by rw [World.cell?_setCell_far _ _ _ _ nq.symm]; exact h3, by rw [World.cell?_setCell_far _ _ _ _ nq.symm]; exact h4, by rw [World.cell?_setCell_far _ _ _ _ nq.symm]; exact h5⟩
/-- A real in a block of its own, which may be written. -/
def Rl (w : World) (R : Nat) (n : Bool) (e : Int) (f : Nat) : Prop := w.cell? ⟨R, 0, none⟩ = some (.bool n) ∧ w.cell? ⟨R, 1, none⟩ = some (.int .i64 e) ∧ w.cell? ⟨R, 2, none⟩ = some (.int .u64 f) ∧ ∀ i, w.frozen? ⟨R, i, none⟩ = false
theorem Rl.gb {w w' : World} {R : Nat} {n : Bool} {e : Int} {f : Nat} (h : Rl w R n e f) (g : Gb w w') : Rl w' R n e f :=
  ⟨at_gb g h.1, at_gb g h.2.1, at_gb g h.2.2.1, fun i => (g.b.frozen (p := ⟨R, i, none⟩) (lt_block (a := ⟨R, 0, none⟩) h.1)).trans (h.2.2.2 i)⟩
theorem Rl.drew {w : World} {R : Nat} {n : Bool} {e : Int} {f : Nat} (h : Rl w R n e f) : Rl w.drew R n e f := h
set_option maxHeartbeats 1000000 in
theorem Widen_at (b r : Nat) (hb : b < 2 ^ 32) (hr : widW b = r) (w : World) (hl : FL w) :
    Calls Tryd.prog 16 #[.int .u32 b] w fun e w' => e = .returned (.int .u64 r) ∧ Gb w w' := by
  obtain ⟨l0, l1, l2, l3, l4, l5⟩ := hl
  have k2 : Gb w ((w.alloc (Obj.cells #[.int .i64 32, .int .i64 8, .int .i64 23] 55)).alloc (Obj.cells #[.int .i64 64, .int .i64 11, .int .i64 52] 55)) := Gb.alloc (Gb.alloc (Gb.refl w) _ _) _ _
  have k2' : Gb w ((w.alloc (Obj.cells #[.int .i64 64, .int .i64 11, .int .i64 52] 55)).alloc (Obj.cells #[.int .i64 32, .int .i64 8, .int .i64 23] 55)) := Gb.alloc (Gb.alloc (Gb.refl w) _ _) _ _
  go_enter Tryd.func16, Tryd.ntmps16
  go_upto_region 1 with fail
  go_cut [3, 4] from 6 to 9 (fun s3 s4 wx => ∃ p q, s3 = .pointer (some ⟨p, 0, none⟩) ∧ s4 = .pointer (some ⟨q, 0, none⟩) ∧ Two wx p q ∧ Gb w wx)
  case first =>
    go_region_held3 (fun w' => w'.cell? ⟨0, 0, none⟩ = some (.int .i64 32) ∧ w'.cell? ⟨0, 1, none⟩ = some (.int .i64 8) ∧ w'.cell? ⟨0, 2, none⟩ = some (.int .i64 23) ∧ w'.cell? ⟨0, 3, none⟩ = some (.int .i64 64) ∧ w'.cell? ⟨0, 4, none⟩ = some (.int .i64 11) ∧ w'.cell? ⟨0, 5, none⟩ = some (.int .i64 52)) (simp (maxDischargeDepth := 9) [*, World.cell?_alloc_some]) (fail)
    all_goals go_wp2_with fail
    all_goals go_meet
    all_goals refine ⟨_, _, rfl, rfl, ⟨by go_simp, by go_simp, by go_simp, by go_simp, by go_simp, by go_simp⟩, ?_⟩
    all_goals first | exact k2.drew | exact k2'.drew
  case rest =>
    obtain ⟨p, q, rfl, rfl, h2, g⟩ := hcut
    obtain ⟨x, hx⟩ : ∃ x, b / 2 ^ 23 % 256 = x := ⟨_, rfl⟩
    obtain ⟨f, hf⟩ : ∃ f, b % 2 ^ 23 = f := ⟨_, rfl⟩
    obtain ⟨n, hn⟩ : ∃ n, (b / 2 ^ 31 % 2 == 1) = n := ⟨_, rfl⟩
    obtain ⟨c, hc⟩ : ∃ c, cls 255 x f = c := ⟨_, rfl⟩
    have hk : b % 2 ^ 31 = x * 2 ^ 23 + f := by omega
    have hfl : f < 2 ^ 23 := by omega
    have hxl : x < 256 := by omega
    have hb64 : b < 2 ^ 64 := by omega
    unfold widW at hr
    rw [hn, hk] at hr
    have HR := hide hr
    have HC := hide hc
    have e0 : IntKind.u64.wrap (b : Int) = (b : Int) := wrap_u64 _ (by omega) (by omega)
    clear k2 k2' l0 l1 l2 l3 l4 l5 hr hc hk
    have h2' := h2
    obtain ⟨a0, a1, a2, b0, b1, b2⟩ := h2'
    go_upto_region 4 with (first
      | (go_at_call 35; refine (apart32 b x f n hb64 hn hx hf _).mono ?_; rintro e w1 ⟨rfl, g1⟩
         have h3 := h2.gb g1
         have h3' := h3
         obtain ⟨p0, p1, p2, q0, q1, q2⟩ := h3')
      | (go_at_call 36; refine (class32 n x f c HC.out _).mono ?_; rintro e w2 ⟨rfl, g2⟩))
    have g2' : Gb w1 w2 := (Gb.alloc (Gb.refl w1) _ _).trans g2
    have h4 := h3.gb g2'
    have h4' := h4
    obtain ⟨e0, e1, e2, d0, d1, d2⟩ := h4'
    have R0 : Rl w2 w1.heap.size n x f := Rl.gb ⟨by go_simp, by go_simp, by go_simp, fun i => by go_simp⟩ g2
    have np : p ≠ w1.heap.size := Nat.ne_of_lt (lt_block (a := ⟨p, 0, none⟩) p0)
    have nq : q ≠ w1.heap.size := Nat.ne_of_lt (lt_block (a := ⟨q, 0, none⟩) q0)
    have nl : w.heap.size ≤ w1.heap.size := (g.trans g1).size
    have gg : Gb w w2 := g.trans (g1.trans g2')
    generalize w1.heap.size = R at *
    clear a0 a1 a2 b0 b1 b2 p0 p1 p2 q0 q1 q2 h3 h2 g2 g2' g1 g
    by_cases h255 : x = 255
    · have hc : ((c : Int) == 4) = true ∨ (((c : Int) == 4) = false ∧ ((c : Int) == 3) = true) := by
        rw [← HC.out]; unfold cls; rw [if_pos h255]; split <;> decide
      obtain ⟨F, hFF⟩ : ∃ F, F = f * 2 ^ 29 := ⟨_, rfl⟩
      have hr : (if n then 2 ^ 63 else 0) + 2047 * 2 ^ 52 + F = r := by
        rw [← HR.out, wid_top x f h255, hFF, Nat.add_assoc]
      have t1 : IntKind.u64.wrap ((f : Int) * 536870912) = (F : Int) := (wrap_u64 _ (by omega) (by omega)).trans (by omega)
      have hF : F < 2 ^ 52 := by omega
      have HJ := hide hr
      clear hr hFF h255
      rcases hc with hc | ⟨hc, hc'⟩
      · go_wp2_with (first
          | (go_at_call 27; refine (lastExp64g _).mono ?_; rintro e w3 ⟨rfl, g3⟩
             have R1 := R0.gb g3
             have T1 := h4.gb g3
             obtain ⟨r0, r1, r2, r3⟩ := R1
             obtain ⟨v0, v1, v2, y0, y1, y2⟩ := T1)
          | (go_at_call 29; refine (join64 n 2047 F r (by omega) hF HJ.out _).mono ?_; rintro e w6 ⟨rfl, g6⟩))
        go_ret
        exact ⟨rfl, ((gg.trans g3).setCell nl _ |>.setCell nl _).trans g6⟩
      · go_wp2_with (first
          | (go_at_call 27; refine (lastExp64g _).mono ?_; rintro e w3 ⟨rfl, g3⟩
             have R1 := R0.gb g3
             have T1 := h4.gb g3
             obtain ⟨r0, r1, r2, r3⟩ := R1
             obtain ⟨v0, v1, v2, y0, y1, y2⟩ := T1)
          | (go_at_call 29; refine (join64 n 2047 F r (by omega) hF HJ.out _).mono ?_; rintro e w6 ⟨rfl, g6⟩))
        go_ret
        exact ⟨rfl, ((gg.trans g3).setCell nl _ |>.setCell nl _).trans g6⟩
    · by_cases hx0 : x = 0
      · by_cases hf0 : f = 0
        · have hc : c = 0 := by rw [← HC.out]; unfold cls; rw [if_neg h255, if_pos hx0, if_pos hf0]
          have hr : (if n then 2 ^ 63 else 0) + x * 2 ^ 52 + f = r := by
            rw [← HR.out, wid_zero x f hx0 hf0, hx0, hf0]
          have t1 : IntKind.u64.wrap ((f : Int) * 536870912) = (f : Int) := (wrap_u64 _ (by omega) (by omega)).trans (by omega)
          have HJ := hide hr
          have hc4 : ((c : Int) == 4) = false := by rw [hc]; rfl
          have hc3 : ((c : Int) == 3) = false := by rw [hc]; rfl
          have hc2 : ((c : Int) == 2) = false := by rw [hc]; rfl
          have hc1 : ((c : Int) == 1) = false := by rw [hc]; rfl
          clear hr h255 hx0 hc hf0
          obtain ⟨r0, r1, r2, r3⟩ := R0
          go_wp2_with (go_at_call 29; refine (join64 n x f r (by omega) (by omega) HJ.out _).mono ?_; rintro e w6 ⟨rfl, g6⟩)
          go_ret
          exact ⟨rfl, (gg.setCell nl _).trans g6⟩
        · have hc : c = 1 := by rw [← HC.out]; unfold cls; rw [if_neg h255, if_pos hx0, if_neg hf0]
          obtain ⟨j, hj⟩ : ∃ j, j = 23 - f.log2 := ⟨_, rfl⟩
          obtain ⟨z, hz⟩ : ∃ z, z = f * 2 ^ j - 2 ^ 23 := ⟨_, rfl⟩
          obtain ⟨j1, j2, j3, j4⟩ := tiny_log f j (by omega) hfl hj
          obtain ⟨F, hFF⟩ : ∃ F, F = z * 2 ^ 29 := ⟨_, rfl⟩
          obtain ⟨E, hE⟩ : ∃ E, E = 897 - j := ⟨_, rfl⟩
          have hr : (if n then 2 ^ 63 else 0) + E * 2 ^ 52 + F = r := by
            rw [← HR.out, wid_tiny x f j z hx0 (by omega) hfl hj hz, hFF, hE, Nat.add_assoc]
          have hzl : z < 2 ^ 23 := by omega
          have t1 : IntKind.u64.wrap ((z : Int) * 536870912) = (F : Int) := (wrap_u64 _ (by omega) (by omega)).trans (by omega)
          have hF : F < 2 ^ 52 := by omega
          have HJ := hide hr
          have HZ := hide hz.symm
          have hc4 : ((c : Int) == 4) = false := by rw [hc]; rfl
          have hc3 : ((c : Int) == 3) = false := by rw [hc]; rfl
          have hc2 : ((c : Int) == 2) = false := by rw [hc]; rfl
          have hc1 : ((c : Int) == 1) = true := by rw [hc]; rfl
          have t2 : IntKind.i64.wrap 896 = 896 := rfl
          have t3 : IntKind.i64.wrap (1 - (j : Int) + 896) = (E : Int) := (wrap_i64 _ (by omega) (by omega)).trans (by omega)
          have hEl : E < 2048 := by omega
          clear hr hFF h255 hx0 hc hE hj hz
          obtain ⟨r0, r1, r2, r3⟩ := id R0
          go_upto_region 11 with (go_at_call 38; refine (raised_at n x f j z j1 j3 j4 HZ _).mono ?_; rintro e w3 ⟨rfl, g3⟩
                                  obtain ⟨r4, r5, r6, r7⟩ := R0.gb g3
                                  obtain ⟨v0, v1, v2, y0, y1, y2⟩ := h4.gb g3)
          have gs := ((((gg.trans g3).setCell nl (.bool n) (a := ⟨R, 0, none⟩)).setCell nl (.int .i64 (1 - (j : Int))) (a := ⟨R, 1, none⟩)).setCell nl (.int .u64 z) (a := ⟨R, 2, none⟩))
          have TS := ((((h4.gb g3).set np nq 0 (.bool n)).set np nq 1 (.int .i64 (1 - (j : Int)))).set np nq 2 (.int .u64 z))
          have RS : Rl (((w3.setCell ⟨R, 0, none⟩ (.bool n)).setCell ⟨R, 1, none⟩ (.int .i64 (1 - (j : Int)))).setCell ⟨R, 2, none⟩ (.int .u64 z)) R n (1 - (j : Int)) z := ⟨by go_simp, by go_simp, by go_simp, fun i => by simp [r7]⟩
          generalize ((w3.setCell ⟨R, 0, none⟩ (.bool n)).setCell ⟨R, 1, none⟩ (.int .i64 (1 - (j : Int)))).setCell ⟨R, 2, none⟩ (.int .u64 z) = ws at *
          clear r0 r1 r2 r3 r4 r5 r6 r7 v0 v1 v2 y0 y1 y2 R0 e0 e1 e2 d0 d1 d2
          obtain ⟨r0, r1, r2, r3⟩ := id RS
          obtain ⟨a0, a1, a2, b0, b1, b2⟩ := id TS
          have TD : Two ws.drew p q := TS
          refine wp_region_held_drew (S := (fun w' => w'.cell? ⟨p, 0, none⟩ = some (.int .i64 32) ∧ w'.cell? ⟨p, 1, none⟩ = some (.int .i64 8) ∧ w'.cell? ⟨p, 2, none⟩ = some (.int .i64 23) ∧ w'.cell? ⟨q, 0, none⟩ = some (.int .i64 64) ∧ w'.cell? ⟨q, 1, none⟩ = some (.int .i64 11) ∧ w'.cell? ⟨q, 2, none⟩ = some (.int .i64 52))) (by kernel_rfl) (by simp [*]) (fun hHeld => ?_)
          refine wpAnyH_take (i := 0) (v := ?_) rfl (by kernel_rfl) (by kernel_rfl) (by kernel_rfl) (fun _ _ _ h => h) (Or.inl ⟨by rfl, ?_⟩) (by assumption) ?_
          rotate_left
          · intro w hSw
            try dsimp only at hSw
            go_simp
            try with_reducible rfl
          try simp only [Act.put, List.setIfInBounds_toArray, List.set_cons_zero, List.set_cons_succ, List.getElem_toArray, List.getElem_cons_zero]
          refine wpAnyH_take (i := 2) (v := ?_) rfl (by kernel_rfl) (by kernel_rfl) (by kernel_rfl) (fun _ _ _ h => h) (Or.inl ⟨by rfl, ?_⟩) (by assumption) ?_
          rotate_left
          · intro w hSw
            try dsimp only at hSw
            go_simp
            try with_reducible rfl
          try simp only [Act.put, List.setIfInBounds_toArray, List.set_cons_zero, List.set_cons_succ, List.getElem_toArray, List.getElem_cons_zero, List.getElem_cons_succ]
          refine wpAnyH_take (i := 4) (v := ?_) rfl (by kernel_rfl) (by kernel_rfl) (by kernel_rfl) (fun _ _ _ h => h) (Or.inl ⟨by rfl, ?_⟩) (by assumption) ?_
          rotate_left
          · intro w hSw
            try dsimp only at hSw
            go_simp
            try with_reducible rfl
          try simp only [Act.put, List.setIfInBounds_toArray, List.set_cons_zero, List.set_cons_succ, List.getElem_toArray, List.getElem_cons_zero, List.getElem_cons_succ]
          refine wpAnyH_ready (rs := [1, 3]) (by kernel_rfl) (by simp) ?_
          refine AllReadyH.cons rfl (fun K hK => ?_) (AllReadyH.cons rfl (fun K hK => ?_) AllReadyH.nil)
          · go_simp
            refine hK.out _ _ (by simp [*]) (fun hHeld => ?_)
            clear hK K
            try simp only [Act.put, List.setIfInBounds_toArray, List.set_cons_zero, List.set_cons_succ, List.getElem_toArray, List.getElem_cons_zero, List.getElem_cons_succ]
            refine wpAnyH_ready (rs := [3]) (by kernel_rfl) (by simp) ?_
            refine AllReadyH.cons rfl (fun K hK => ?_) AllReadyH.nil
            go_simp
            go_wp2_with (go_at_call 37; refine (middle64g _).mono ?_; rintro e w4 ⟨rfl, g4⟩; have R4 := RS.drew.gb (w' := w4) g4; have T4 := TD.gb (w' := w4) g4; obtain ⟨r4, r5, r6, r7⟩ := id R4; obtain ⟨v0, v1, v2, y0, y1, y2⟩ := id T4)
            refine hK.out _ _ (by simp [*]) (fun hHeld => ?_)
            clear hK K
            try simp only [Act.put, List.setIfInBounds_toArray, List.set_cons_zero, List.set_cons_succ, List.getElem_toArray, List.getElem_cons_zero, List.getElem_cons_succ]
            refine wpAnyH_ready (rs := [5]) (by kernel_rfl) (by simp) ?_
            refine AllReadyH.cons rfl (fun K hK => ?_) AllReadyH.nil
            go_simp
            go_wp2_with (go_at_call 37; refine (middle32g _).mono ?_; rintro e w5 ⟨rfl, g5⟩; have R5 := R4.gb (w' := w5) g5; have T5 := T4.gb (w' := w5) g5; obtain ⟨r8, r9, r10, r11⟩ := id R5; obtain ⟨v3, v4, v5, y3, y4, y5⟩ := id T5)
            refine hK.out _ _ (by simp [*]) (fun hHeld => ?_)
            clear hK K
            try simp only [Act.put, List.setIfInBounds_toArray, List.set_cons_zero, List.set_cons_succ, List.getElem_toArray, List.getElem_cons_zero, List.getElem_cons_succ]
            refine wpAnyH_take (i := 6) (v := ?_) rfl (by kernel_rfl) (by kernel_rfl) (by kernel_rfl) (fun _ _ _ h => h) (Or.inl ⟨by rfl, ?_⟩) (by assumption) ?_
            rotate_left
            · intro w hSw
              try dsimp only at hSw
              go_simp
              try with_reducible rfl
            try simp only [Act.put, List.setIfInBounds_toArray, List.set_cons_zero, List.set_cons_succ, List.getElem_toArray, List.getElem_cons_zero, List.getElem_cons_succ]
            refine wpAnyH_take (i := 7) (v := ?_) rfl (by kernel_rfl) (by kernel_rfl) (by kernel_rfl) (fun _ _ _ h => h) (Or.inl ⟨by rfl, ?_⟩) (by assumption) ?_
            rotate_left
            · intro w hSw
              try dsimp only at hSw
              go_simp
              try with_reducible rfl
            try simp only [Act.put, List.setIfInBounds_toArray, List.set_cons_zero, List.set_cons_succ, List.getElem_toArray, List.getElem_cons_zero, List.getElem_cons_succ]
            refine wpAnyH_take (i := 8) (v := ?_) rfl (by kernel_rfl) (by kernel_rfl) (by kernel_rfl) (fun _ _ _ h => h) (Or.inl ⟨by rfl, ?_⟩) (by assumption) ?_
            rotate_left
            · intro w hSw
              try dsimp only at hSw
              go_simp
              try with_reducible rfl
            try simp only [Act.put, List.setIfInBounds_toArray, List.set_cons_zero, List.set_cons_succ, List.getElem_toArray, List.getElem_cons_zero, List.getElem_cons_succ]
            refine wpAnyH_ready (rs := [9]) (by kernel_rfl) (by simp) ?_
            refine AllReadyH.cons rfl (fun K hK => ?_) AllReadyH.nil
            go_simp
            refine hK.out _ _ (by exact T5.set np nq _ _) (fun hHeld => ?_)
            clear hK K
            try simp only [Act.put, List.setIfInBounds_toArray, List.set_cons_zero, List.set_cons_succ, List.getElem_toArray, List.getElem_cons_zero, List.getElem_cons_succ]
            refine wpAnyH_done (by kernel_rfl) ?_ _
            clear hHeld
            have T6 := T5.set np nq 1 (.int .i64 E)
            obtain ⟨v6, v7, v8, y6, y7, y8⟩ := id T6
            go_wp2_with (go_at_call 29; refine (join64 n E F r hEl hF HJ.out _).mono ?_; rintro e w6 ⟨rfl, g6⟩)
            go_ret
            exact ⟨rfl, (((gs.drew.trans (g4.trans g5)).setCell nl _).setCell nl _).trans g6⟩
          · go_simp
            go_wp2_with (go_at_call 37; refine (middle64g _).mono ?_; rintro e w4 ⟨rfl, g4⟩; have R4 := RS.drew.gb (w' := w4) g4; have T4 := TD.gb (w' := w4) g4; obtain ⟨r4, r5, r6, r7⟩ := id R4; obtain ⟨v0, v1, v2, y0, y1, y2⟩ := id T4)
            refine hK.out _ _ (by simp [*]) (fun hHeld => ?_)
            clear hK K
            try simp only [Act.put, List.setIfInBounds_toArray, List.set_cons_zero, List.set_cons_succ, List.getElem_toArray, List.getElem_cons_zero, List.getElem_cons_succ]
            refine wpAnyH_ready (rs := [1, 5]) (by kernel_rfl) (by simp) ?_
            refine AllReadyH.cons rfl (fun K hK => ?_) (AllReadyH.cons rfl (fun K hK => ?_) AllReadyH.nil)
            · go_simp
              refine hK.out _ _ (by simp [*]) (fun hHeld => ?_)
              clear hK K
              try simp only [Act.put, List.setIfInBounds_toArray, List.set_cons_zero, List.set_cons_succ, List.getElem_toArray, List.getElem_cons_zero, List.getElem_cons_succ]
              refine wpAnyH_ready (rs := [5]) (by kernel_rfl) (by simp) ?_
              refine AllReadyH.cons rfl (fun K hK => ?_) AllReadyH.nil
              go_simp
              go_wp2_with (go_at_call 37; refine (middle32g _).mono ?_; rintro e w5 ⟨rfl, g5⟩; have R5 := R4.gb (w' := w5) g5; have T5 := T4.gb (w' := w5) g5; obtain ⟨r8, r9, r10, r11⟩ := id R5; obtain ⟨v3, v4, v5, y3, y4, y5⟩ := id T5)
              refine hK.out _ _ (by simp [*]) (fun hHeld => ?_)
              clear hK K
              try simp only [Act.put, List.setIfInBounds_toArray, List.set_cons_zero, List.set_cons_succ, List.getElem_toArray, List.getElem_cons_zero, List.getElem_cons_succ]
              refine wpAnyH_take (i := 6) (v := ?_) rfl (by kernel_rfl) (by kernel_rfl) (by kernel_rfl) (fun _ _ _ h => h) (Or.inl ⟨by rfl, ?_⟩) (by assumption) ?_
              rotate_left
              · intro w hSw
                try dsimp only at hSw
                go_simp
                try with_reducible rfl
              try simp only [Act.put, List.setIfInBounds_toArray, List.set_cons_zero, List.set_cons_succ, List.getElem_toArray, List.getElem_cons_zero, List.getElem_cons_succ]
              refine wpAnyH_take (i := 7) (v := ?_) rfl (by kernel_rfl) (by kernel_rfl) (by kernel_rfl) (fun _ _ _ h => h) (Or.inl ⟨by rfl, ?_⟩) (by assumption) ?_
              rotate_left
              · intro w hSw
                try dsimp only at hSw
                go_simp
                try with_reducible rfl
              try simp only [Act.put, List.setIfInBounds_toArray, List.set_cons_zero, List.set_cons_succ, List.getElem_toArray, List.getElem_cons_zero, List.getElem_cons_succ]
              refine wpAnyH_take (i := 8) (v := ?_) rfl (by kernel_rfl) (by kernel_rfl) (by kernel_rfl) (fun _ _ _ h => h) (Or.inl ⟨by rfl, ?_⟩) (by assumption) ?_
              rotate_left
              · intro w hSw
                try dsimp only at hSw
                go_simp
                try with_reducible rfl
              try simp only [Act.put, List.setIfInBounds_toArray, List.set_cons_zero, List.set_cons_succ, List.getElem_toArray, List.getElem_cons_zero, List.getElem_cons_succ]
              refine wpAnyH_ready (rs := [9]) (by kernel_rfl) (by simp) ?_
              refine AllReadyH.cons rfl (fun K hK => ?_) AllReadyH.nil
              go_simp
              refine hK.out _ _ (by exact T5.set np nq _ _) (fun hHeld => ?_)
              clear hK K
              try simp only [Act.put, List.setIfInBounds_toArray, List.set_cons_zero, List.set_cons_succ, List.getElem_toArray, List.getElem_cons_zero, List.getElem_cons_succ]
              refine wpAnyH_done (by kernel_rfl) ?_ _
              clear hHeld
              have T6 := T5.set np nq 1 (.int .i64 E)
              obtain ⟨v6, v7, v8, y6, y7, y8⟩ := id T6
              go_wp2_with (go_at_call 29; refine (join64 n E F r hEl hF HJ.out _).mono ?_; rintro e w6 ⟨rfl, g6⟩)
              go_ret
              exact ⟨rfl, (((gs.drew.trans (g4.trans g5)).setCell nl _).setCell nl _).trans g6⟩
            · go_simp
              go_wp2_with (go_at_call 37; refine (middle32g _).mono ?_; rintro e w5 ⟨rfl, g5⟩; have R5 := R4.gb (w' := w5) g5; have T5 := T4.gb (w' := w5) g5; obtain ⟨r8, r9, r10, r11⟩ := id R5; obtain ⟨v3, v4, v5, y3, y4, y5⟩ := id T5)
              refine hK.out _ _ (by simp [*]) (fun hHeld => ?_)
              clear hK K
              try simp only [Act.put, List.setIfInBounds_toArray, List.set_cons_zero, List.set_cons_succ, List.getElem_toArray, List.getElem_cons_zero, List.getElem_cons_succ]
              refine wpAnyH_take (i := 6) (v := ?_) rfl (by kernel_rfl) (by kernel_rfl) (by kernel_rfl) (fun _ _ _ h => h) (Or.inl ⟨by rfl, ?_⟩) (by assumption) ?_
              rotate_left
              · intro w hSw
                try dsimp only at hSw
                go_simp
                try with_reducible rfl
              try simp only [Act.put, List.setIfInBounds_toArray, List.set_cons_zero, List.set_cons_succ, List.getElem_toArray, List.getElem_cons_zero, List.getElem_cons_succ]
              refine wpAnyH_ready (rs := [1]) (by kernel_rfl) (by simp) ?_
              refine AllReadyH.cons rfl (fun K hK => ?_) AllReadyH.nil
              go_simp
              refine hK.out _ _ (by simp [*]) (fun hHeld => ?_)
              clear hK K
              try simp only [Act.put, List.setIfInBounds_toArray, List.set_cons_zero, List.set_cons_succ, List.getElem_toArray, List.getElem_cons_zero, List.getElem_cons_succ]
              refine wpAnyH_take (i := 7) (v := ?_) rfl (by kernel_rfl) (by kernel_rfl) (by kernel_rfl) (fun _ _ _ h => h) (Or.inl ⟨by rfl, ?_⟩) (by assumption) ?_
              rotate_left
              · intro w hSw
                try dsimp only at hSw
                go_simp
                try with_reducible rfl
              try simp only [Act.put, List.setIfInBounds_toArray, List.set_cons_zero, List.set_cons_succ, List.getElem_toArray, List.getElem_cons_zero, List.getElem_cons_succ]
              refine wpAnyH_take (i := 8) (v := ?_) rfl (by kernel_rfl) (by kernel_rfl) (by kernel_rfl) (fun _ _ _ h => h) (Or.inl ⟨by rfl, ?_⟩) (by assumption) ?_
              rotate_left
              · intro w hSw
                try dsimp only at hSw
                go_simp
                try with_reducible rfl
              try simp only [Act.put, List.setIfInBounds_toArray, List.set_cons_zero, List.set_cons_succ, List.getElem_toArray, List.getElem_cons_zero, List.getElem_cons_succ]
              refine wpAnyH_ready (rs := [9]) (by kernel_rfl) (by simp) ?_
              refine AllReadyH.cons rfl (fun K hK => ?_) AllReadyH.nil
              go_simp
              refine hK.out _ _ (by exact T5.set np nq _ _) (fun hHeld => ?_)
              clear hK K
              try simp only [Act.put, List.setIfInBounds_toArray, List.set_cons_zero, List.set_cons_succ, List.getElem_toArray, List.getElem_cons_zero, List.getElem_cons_succ]
              refine wpAnyH_done (by kernel_rfl) ?_ _
              clear hHeld
              have T6 := T5.set np nq 1 (.int .i64 E)
              obtain ⟨v6, v7, v8, y6, y7, y8⟩ := id T6
              go_wp2_with (go_at_call 29; refine (join64 n E F r hEl hF HJ.out _).mono ?_; rintro e w6 ⟨rfl, g6⟩)
              go_ret
              exact ⟨rfl, (((gs.drew.trans (g4.trans g5)).setCell nl _).setCell nl _).trans g6⟩
      · have hc : c = 2 := by rw [← HC.out]; unfold cls; rw [if_neg h255, if_neg hx0]
        obtain ⟨F, hFF⟩ : ∃ F, F = f * 2 ^ 29 := ⟨_, rfl⟩
        have hr : (if n then 2 ^ 63 else 0) + (x + 896) * 2 ^ 52 + F = r := by
          rw [← HR.out, wid_mid x f (by omega) (by omega) hfl, hFF, Nat.add_assoc]
        have t1 : IntKind.u64.wrap ((f : Int) * 536870912) = (F : Int) := (wrap_u64 _ (by omega) (by omega)).trans (by omega)
        have hF : F < 2 ^ 52 := by omega
        have HJ := hide hr
        have hc4 : ((c : Int) == 4) = false := by rw [hc]; rfl
        have hc3 : ((c : Int) == 3) = false := by rw [hc]; rfl
        have hc2 : ((c : Int) == 2) = true := by rw [hc]; rfl
        obtain ⟨E, hE⟩ : ∃ E, E = x + 896 := ⟨_, rfl⟩
        have t2 : IntKind.i64.wrap 896 = 896 := rfl
        have t3 : IntKind.i64.wrap ((x : Int) + 896) = (E : Int) := (wrap_i64 _ (by omega) (by omega)).trans (by omega)
        rw [← hE] at HJ
        have hEl : E < 2048 := by omega
        clear hr hFF h255 hx0 hc hE
        obtain ⟨r0, r1, r2, r3⟩ := R0
        go_upto_region 8 with fail
        have RR : Rl w2.drew R n x f := ⟨r0, r1, r2, r3⟩
        have TT : Two w2.drew p q := h4
        refine wp_region_held_drew (S := (fun w' => w'.cell? ⟨p, 0, none⟩ = some (.int .i64 32) ∧ w'.cell? ⟨p, 1, none⟩ = some (.int .i64 8) ∧ w'.cell? ⟨p, 2, none⟩ = some (.int .i64 23) ∧ w'.cell? ⟨q, 0, none⟩ = some (.int .i64 64) ∧ w'.cell? ⟨q, 1, none⟩ = some (.int .i64 11) ∧ w'.cell? ⟨q, 2, none⟩ = some (.int .i64 52))) (by kernel_rfl) (by simp [*]) (fun hHeld => ?_)
        refine wpAnyH_take (i := 0) (v := ?_) rfl (by kernel_rfl) (by kernel_rfl) (by kernel_rfl) (fun _ _ _ h => h) (Or.inl ⟨by rfl, ?_⟩) (by assumption) ?_
        rotate_left
        · intro w hSw
          try dsimp only at hSw
          go_simp
          try with_reducible rfl
        try simp only [Act.put, List.setIfInBounds_toArray, List.set_cons_zero, List.set_cons_succ, List.getElem_toArray, List.getElem_cons_zero]
        refine wpAnyH_take (i := 2) (v := ?_) rfl (by kernel_rfl) (by kernel_rfl) (by kernel_rfl) (fun _ _ _ h => h) (Or.inl ⟨by rfl, ?_⟩) (by assumption) ?_
        rotate_left
        · intro w hSw
          try dsimp only at hSw
          go_simp
          try with_reducible rfl
        try simp only [Act.put, List.setIfInBounds_toArray, List.set_cons_zero, List.set_cons_succ, List.getElem_toArray, List.getElem_cons_zero, List.getElem_cons_succ]
        refine wpAnyH_take (i := 4) (v := ?_) rfl (by kernel_rfl) (by kernel_rfl) (by kernel_rfl) (fun _ _ _ h => h) (Or.inl ⟨by rfl, ?_⟩) (by assumption) ?_
        rotate_left
        · intro w hSw
          try dsimp only at hSw
          go_simp
          try with_reducible rfl
        try simp only [Act.put, List.setIfInBounds_toArray, List.set_cons_zero, List.set_cons_succ, List.getElem_toArray, List.getElem_cons_zero, List.getElem_cons_succ]
        refine wpAnyH_ready (rs := [1, 3]) (by kernel_rfl) (by simp) ?_
        refine AllReadyH.cons rfl (fun K hK => ?_) (AllReadyH.cons rfl (fun K hK => ?_) AllReadyH.nil)
        · go_simp
          refine hK.out _ _ (by simp [*]) (fun hHeld => ?_)
          clear hK K
          try simp only [Act.put, List.setIfInBounds_toArray, List.set_cons_zero, List.set_cons_succ, List.getElem_toArray, List.getElem_cons_zero, List.getElem_cons_succ]
          refine wpAnyH_ready (rs := [3]) (by kernel_rfl) (by simp) ?_
          refine AllReadyH.cons rfl (fun K hK => ?_) AllReadyH.nil
          go_simp
          go_wp2_with (go_at_call 37; refine (middle64g _).mono ?_; rintro e w4 ⟨rfl, g4⟩; have R4 := RR.gb (w' := w4) g4; have T4 := TT.gb (w' := w4) g4; obtain ⟨r4, r5, r6, r7⟩ := id R4; obtain ⟨v0, v1, v2, y0, y1, y2⟩ := id T4)
          refine hK.out _ _ (by simp [*]) (fun hHeld => ?_)
          clear hK K
          try simp only [Act.put, List.setIfInBounds_toArray, List.set_cons_zero, List.set_cons_succ, List.getElem_toArray, List.getElem_cons_zero, List.getElem_cons_succ]
          refine wpAnyH_ready (rs := [5]) (by kernel_rfl) (by simp) ?_
          refine AllReadyH.cons rfl (fun K hK => ?_) AllReadyH.nil
          go_simp
          go_wp2_with (go_at_call 37; refine (middle32g _).mono ?_; rintro e w5 ⟨rfl, g5⟩; have R5 := R4.gb (w' := w5) g5; have T5 := T4.gb (w' := w5) g5; obtain ⟨r8, r9, r10, r11⟩ := id R5; obtain ⟨v3, v4, v5, y3, y4, y5⟩ := id T5)
          refine hK.out _ _ (by simp [*]) (fun hHeld => ?_)
          clear hK K
          try simp only [Act.put, List.setIfInBounds_toArray, List.set_cons_zero, List.set_cons_succ, List.getElem_toArray, List.getElem_cons_zero, List.getElem_cons_succ]
          refine wpAnyH_take (i := 6) (v := ?_) rfl (by kernel_rfl) (by kernel_rfl) (by kernel_rfl) (fun _ _ _ h => h) (Or.inl ⟨by rfl, ?_⟩) (by assumption) ?_
          rotate_left
          · intro w hSw
            try dsimp only at hSw
            go_simp
            try with_reducible rfl
          try simp only [Act.put, List.setIfInBounds_toArray, List.set_cons_zero, List.set_cons_succ, List.getElem_toArray, List.getElem_cons_zero, List.getElem_cons_succ]
          refine wpAnyH_take (i := 7) (v := ?_) rfl (by kernel_rfl) (by kernel_rfl) (by kernel_rfl) (fun _ _ _ h => h) (Or.inl ⟨by rfl, ?_⟩) (by assumption) ?_
          rotate_left
          · intro w hSw
            try dsimp only at hSw
            go_simp
            try with_reducible rfl
          try simp only [Act.put, List.setIfInBounds_toArray, List.set_cons_zero, List.set_cons_succ, List.getElem_toArray, List.getElem_cons_zero, List.getElem_cons_succ]
          refine wpAnyH_take (i := 8) (v := ?_) rfl (by kernel_rfl) (by kernel_rfl) (by kernel_rfl) (fun _ _ _ h => h) (Or.inl ⟨by rfl, ?_⟩) (by assumption) ?_
          rotate_left
          · intro w hSw
            try dsimp only at hSw
            go_simp
            try with_reducible rfl
          try simp only [Act.put, List.setIfInBounds_toArray, List.set_cons_zero, List.set_cons_succ, List.getElem_toArray, List.getElem_cons_zero, List.getElem_cons_succ]
          refine wpAnyH_ready (rs := [9]) (by kernel_rfl) (by simp) ?_
          refine AllReadyH.cons rfl (fun K hK => ?_) AllReadyH.nil
          go_simp
          refine hK.out _ _ (by exact T5.set np nq _ _) (fun hHeld => ?_)
          clear hK K
          try simp only [Act.put, List.setIfInBounds_toArray, List.set_cons_zero, List.set_cons_succ, List.getElem_toArray, List.getElem_cons_zero, List.getElem_cons_succ]
          refine wpAnyH_done (by kernel_rfl) ?_ _
          clear hHeld
          have T6 := T5.set np nq 1 (.int .i64 E)
          obtain ⟨v6, v7, v8, y6, y7, y8⟩ := id T6
          go_wp2_with (go_at_call 29; refine (join64 n E F r hEl hF HJ.out _).mono ?_; rintro e w6 ⟨rfl, g6⟩)
          go_ret
          exact ⟨rfl, (((gg.drew.trans (g4.trans g5)).setCell nl _).setCell nl _).trans g6⟩
        · go_simp
          go_wp2_with (go_at_call 37; refine (middle64g _).mono ?_; rintro e w4 ⟨rfl, g4⟩; have R4 := RR.gb (w' := w4) g4; have T4 := TT.gb (w' := w4) g4; obtain ⟨r4, r5, r6, r7⟩ := id R4; obtain ⟨v0, v1, v2, y0, y1, y2⟩ := id T4)
          refine hK.out _ _ (by simp [*]) (fun hHeld => ?_)
          clear hK K
          try simp only [Act.put, List.setIfInBounds_toArray, List.set_cons_zero, List.set_cons_succ, List.getElem_toArray, List.getElem_cons_zero, List.getElem_cons_succ]
          refine wpAnyH_ready (rs := [1, 5]) (by kernel_rfl) (by simp) ?_
          refine AllReadyH.cons rfl (fun K hK => ?_) (AllReadyH.cons rfl (fun K hK => ?_) AllReadyH.nil)
          · go_simp
            refine hK.out _ _ (by simp [*]) (fun hHeld => ?_)
            clear hK K
            try simp only [Act.put, List.setIfInBounds_toArray, List.set_cons_zero, List.set_cons_succ, List.getElem_toArray, List.getElem_cons_zero, List.getElem_cons_succ]
            refine wpAnyH_ready (rs := [5]) (by kernel_rfl) (by simp) ?_
            refine AllReadyH.cons rfl (fun K hK => ?_) AllReadyH.nil
            go_simp
            go_wp2_with (go_at_call 37; refine (middle32g _).mono ?_; rintro e w5 ⟨rfl, g5⟩; have R5 := R4.gb (w' := w5) g5; have T5 := T4.gb (w' := w5) g5; obtain ⟨r8, r9, r10, r11⟩ := id R5; obtain ⟨v3, v4, v5, y3, y4, y5⟩ := id T5)
            refine hK.out _ _ (by simp [*]) (fun hHeld => ?_)
            clear hK K
            try simp only [Act.put, List.setIfInBounds_toArray, List.set_cons_zero, List.set_cons_succ, List.getElem_toArray, List.getElem_cons_zero, List.getElem_cons_succ]
            refine wpAnyH_take (i := 6) (v := ?_) rfl (by kernel_rfl) (by kernel_rfl) (by kernel_rfl) (fun _ _ _ h => h) (Or.inl ⟨by rfl, ?_⟩) (by assumption) ?_
            rotate_left
            · intro w hSw
              try dsimp only at hSw
              go_simp
              try with_reducible rfl
            try simp only [Act.put, List.setIfInBounds_toArray, List.set_cons_zero, List.set_cons_succ, List.getElem_toArray, List.getElem_cons_zero, List.getElem_cons_succ]
            refine wpAnyH_take (i := 7) (v := ?_) rfl (by kernel_rfl) (by kernel_rfl) (by kernel_rfl) (fun _ _ _ h => h) (Or.inl ⟨by rfl, ?_⟩) (by assumption) ?_
            rotate_left
            · intro w hSw
              try dsimp only at hSw
              go_simp
              try with_reducible rfl
            try simp only [Act.put, List.setIfInBounds_toArray, List.set_cons_zero, List.set_cons_succ, List.getElem_toArray, List.getElem_cons_zero, List.getElem_cons_succ]
            refine wpAnyH_take (i := 8) (v := ?_) rfl (by kernel_rfl) (by kernel_rfl) (by kernel_rfl) (fun _ _ _ h => h) (Or.inl ⟨by rfl, ?_⟩) (by assumption) ?_
            rotate_left
            · intro w hSw
              try dsimp only at hSw
              go_simp
              try with_reducible rfl
            try simp only [Act.put, List.setIfInBounds_toArray, List.set_cons_zero, List.set_cons_succ, List.getElem_toArray, List.getElem_cons_zero, List.getElem_cons_succ]
            refine wpAnyH_ready (rs := [9]) (by kernel_rfl) (by simp) ?_
            refine AllReadyH.cons rfl (fun K hK => ?_) AllReadyH.nil
            go_simp
            refine hK.out _ _ (by exact T5.set np nq _ _) (fun hHeld => ?_)
            clear hK K
            try simp only [Act.put, List.setIfInBounds_toArray, List.set_cons_zero, List.set_cons_succ, List.getElem_toArray, List.getElem_cons_zero, List.getElem_cons_succ]
            refine wpAnyH_done (by kernel_rfl) ?_ _
            clear hHeld
            have T6 := T5.set np nq 1 (.int .i64 E)
            obtain ⟨v6, v7, v8, y6, y7, y8⟩ := id T6
            go_wp2_with (go_at_call 29; refine (join64 n E F r hEl hF HJ.out _).mono ?_; rintro e w6 ⟨rfl, g6⟩)
            go_ret
            exact ⟨rfl, (((gg.drew.trans (g4.trans g5)).setCell nl _).setCell nl _).trans g6⟩
          · go_simp
            go_wp2_with (go_at_call 37; refine (middle32g _).mono ?_; rintro e w5 ⟨rfl, g5⟩; have R5 := R4.gb (w' := w5) g5; have T5 := T4.gb (w' := w5) g5; obtain ⟨r8, r9, r10, r11⟩ := id R5; obtain ⟨v3, v4, v5, y3, y4, y5⟩ := id T5)
            refine hK.out _ _ (by simp [*]) (fun hHeld => ?_)
            clear hK K
            try simp only [Act.put, List.setIfInBounds_toArray, List.set_cons_zero, List.set_cons_succ, List.getElem_toArray, List.getElem_cons_zero, List.getElem_cons_succ]
            refine wpAnyH_take (i := 6) (v := ?_) rfl (by kernel_rfl) (by kernel_rfl) (by kernel_rfl) (fun _ _ _ h => h) (Or.inl ⟨by rfl, ?_⟩) (by assumption) ?_
            rotate_left
            · intro w hSw
              try dsimp only at hSw
              go_simp
              try with_reducible rfl
            try simp only [Act.put, List.setIfInBounds_toArray, List.set_cons_zero, List.set_cons_succ, List.getElem_toArray, List.getElem_cons_zero, List.getElem_cons_succ]
            refine wpAnyH_ready (rs := [1]) (by kernel_rfl) (by simp) ?_
            refine AllReadyH.cons rfl (fun K hK => ?_) AllReadyH.nil
            go_simp
            refine hK.out _ _ (by simp [*]) (fun hHeld => ?_)
            clear hK K
            try simp only [Act.put, List.setIfInBounds_toArray, List.set_cons_zero, List.set_cons_succ, List.getElem_toArray, List.getElem_cons_zero, List.getElem_cons_succ]
            refine wpAnyH_take (i := 7) (v := ?_) rfl (by kernel_rfl) (by kernel_rfl) (by kernel_rfl) (fun _ _ _ h => h) (Or.inl ⟨by rfl, ?_⟩) (by assumption) ?_
            rotate_left
            · intro w hSw
              try dsimp only at hSw
              go_simp
              try with_reducible rfl
            try simp only [Act.put, List.setIfInBounds_toArray, List.set_cons_zero, List.set_cons_succ, List.getElem_toArray, List.getElem_cons_zero, List.getElem_cons_succ]
            refine wpAnyH_take (i := 8) (v := ?_) rfl (by kernel_rfl) (by kernel_rfl) (by kernel_rfl) (fun _ _ _ h => h) (Or.inl ⟨by rfl, ?_⟩) (by assumption) ?_
            rotate_left
            · intro w hSw
              try dsimp only at hSw
              go_simp
              try with_reducible rfl
            try simp only [Act.put, List.setIfInBounds_toArray, List.set_cons_zero, List.set_cons_succ, List.getElem_toArray, List.getElem_cons_zero, List.getElem_cons_succ]
            refine wpAnyH_ready (rs := [9]) (by kernel_rfl) (by simp) ?_
            refine AllReadyH.cons rfl (fun K hK => ?_) AllReadyH.nil
            go_simp
            refine hK.out _ _ (by exact T5.set np nq _ _) (fun hHeld => ?_)
            clear hK K
            try simp only [Act.put, List.setIfInBounds_toArray, List.set_cons_zero, List.set_cons_succ, List.getElem_toArray, List.getElem_cons_zero, List.getElem_cons_succ]
            refine wpAnyH_done (by kernel_rfl) ?_ _
            clear hHeld
            have T6 := T5.set np nq 1 (.int .i64 E)
            obtain ⟨v6, v7, v8, y6, y7, y8⟩ := id T6
            go_wp2_with (go_at_call 29; refine (join64 n E F r hEl hF HJ.out _).mono ?_; rintro e w6 ⟨rfl, g6⟩)
            go_ret
            exact ⟨rfl, (((gg.drew.trans (g4.trans g5)).setCell nl _).setCell nl _).trans g6⟩
end Go.Proofs.YtnhekkahiphlgaaDoor.rl
