/- What the register ahead of a byte is, and what Force of package sums answers. -/
import Derived.Test.YthimjckimggpoaaDoorSums5
import Derived.Test.YthimjckimggpoaaDoorForc
namespace Go.Proofs.YthimjckimggpoaaDoor.sums
open Go.ChangeShapes Go.WideShapes Go.ChangeAt Go.RowKit
open mem bit crc
attribute [local go_sem] World.cell?_alloc_some

theorem and1_u32 (x : Nat) (hx : x < 4294967296) : bits .and .u32 (x : Int) 1 = ((x % 2 : Nat) : Int) := by
  have := u32_and_nat x 1 hx (by decide)
  rw [show ((1 : Nat) : Int) = 1 from rfl] at this
  rw [this, nat_mask1]
theorem half_lt (W : Nat) (h32 : W ≤ 32) : 2 ^ (W - 1) < 4294967296 :=
  Nat.lt_of_le_of_lt (show 2 ^ (W - 1) ≤ 2 ^ 31 from Nat.pow_le_pow_right (by decide) (by omega)) (by decide)
theorem unstep_yes (W P x : Nat) (h32 : W ≤ 32) (hx : x < 2 ^ W) (hP : P < 2 ^ W) (h : (bits .and .u32 (x : Int) 1 == 1) = true) :
    bits .or .u32 (bits .xor .u32 (x : Int) (P : Int) / 2) (bits .and .u32 (x : Int) 1 * 2 ^ (W - 1) % 4294967296) = (unstep W P x : Nat) := by
  have hle := le32 W h32
  have hh := half_lt W h32
  have hx2 : x ^^^ P < 2 ^ W := Nat.xor_lt_two_pow hx hP
  rw [and1_u32 x (by omega)] at h ⊢
  have h1 : x % 2 = 1 := by
    rcases Nat.mod_two_eq_zero_or_one x with e | e
    · rw [e] at h; exact absurd h (by decide)
    · exact e
  have ht : x.testBit 0 = true := by simp [Nat.testBit_zero, h1]
  rw [unstep, ht, h1, u32_xor_nat _ _ (by omega) (by omega), ← p2]
  generalize (2 : Nat) ^ (W - 1) = Q at hh ⊢
  rw [show ((x ^^^ P : Nat) : Int) / 2 = (((x ^^^ P) / 2 : Nat) : Int) by omega, show (((1 : Nat) : Int) * (Q : Int) % 4294967296) = (Q : Int) by omega, u32_or_nat _ _ (by omega) hh]
  rfl
theorem unstep_no (W P x : Nat) (h32 : W ≤ 32) (hx : x < 2 ^ W) (h : (bits .and .u32 (x : Int) 1 == 1) = false) :
    bits .or .u32 ((x : Int) / 2) (bits .and .u32 (x : Int) 1 * 2 ^ (W - 1) % 4294967296) = (unstep W P x : Nat) := by
  have hle := le32 W h32
  rw [and1_u32 x (by omega)] at h ⊢
  have h1 : x % 2 = 0 := by
    rcases Nat.mod_two_eq_zero_or_one x with e | e
    · exact e
    · rw [e] at h; exact absurd h (by decide)
  have ht : x.testBit 0 = false := by simp [Nat.testBit_zero, h1]
  rw [unstep, ht, h1, show ((0 : Nat) : Int) * 2 ^ (W - 1) % 4294967296 = ((0 : Nat) : Int) by simp, show (x : Int) / 2 = ((x / 2 : Nat) : Int) by omega, u32_or_nat _ _ (by omega) (by decide)]
  simp
theorem back_at (W P : Nat) (I O : Int) (t : Bool) (r c : Nat) (w : World) (hc : c < 256) (h8 : 8 ≤ W) (h32 : W ≤ 32) (hr : r < 2 ^ W) (hP : P < 2 ^ W) :
    Calls Tryd.prog 22 #[.agg #[.int .i64 W, .int .u32 P, .bool t, .int .u32 I, .int .u32 O], .int .u32 r, .int .u8 c] w fun e w' => e = .returned (.int .u32 (bw W P t r c : Nat)) ∧ Gb w w' := by
  have hl := trn8_lt t c hc
  have hle := le32 W h32
  have htop := top_lt W _ h8 hl
  obtain ⟨q, hq⟩ : ∃ q, q = trn t 8 c * 2 ^ (W - 8) := ⟨_, rfl⟩
  have HW : Hid (bw W P t r c = U W P r 8 ^^^ q) := by rw [hq]; exact rfl
  have hat : ∀ w, Calls Tryd.prog 25 #[.agg #[.int .i64 W, .int .u32 P, .bool t, .int .u32 I, .int .u32 O], .int .u8 c] w fun e w' => e = .returned (.int .u32 (q : Nat)) ∧ Gb w w' := fun w => by rw [hq]; exact atTop_at W P I O t c w hc h8 h32
  rw [← hq] at htop
  clear hq
  go_enter Tryd.func22, Tryd.ntmps22
  go_wp2
  go_loop [1, 8] (fun x i => ∃ k : Nat, k ≤ 8 ∧ i = .int .i64 (k : Int) ∧ x = .int .u32 (U W P r k : Nat)) (fun _ i => 8 - (intOf i).toNat)
  case atStart => exact ⟨0, Nat.zero_le _, rfl, rfl⟩
  case round =>
    obtain ⟨k, hk, rfl, rfl⟩ := hrel
    by_cases hlt : k < 8
    · have hz := U_lt W P r k (by omega) hP hr
      have HZ : Hid (U W P r (k + 1) = unstep W P (U W P r k)) := rfl
      obtain ⟨x, hxx⟩ : ∃ x, x = U W P r k := ⟨_, rfl⟩
      rw [← hxx] at hz HZ ⊢
      clear hxx
      go_wp2
      · go_round
        case rel =>
          rename_i hyes
          exact ⟨k + 1, by omega, by go_num, by rw [HZ.out]; exact congrArg (Value.int IntKind.u32) (unstep_yes W P x h32 hz hP hyes)⟩
        case measure => simp [intOf]; omega
      · go_round
        case rel =>
          rename_i hno
          exact ⟨k + 1, by omega, by go_num, by rw [HZ.out]; exact congrArg (Value.int IntKind.u32) (unstep_no W P x h32 hz hno)⟩
        case measure => simp [intOf]; omega
    · obtain rfl : k = 8 := by omega
      have hu := U_lt W P r 8 (by omega) hP hr
      go_wp2_with (go_at_call 25; refine (hat _).mono ?_; rintro e w1 ⟨rfl, g1⟩; have c0 := at_gb g1 (a := ⟨w.heap.size, 0, none⟩) (v := .int .i64 W) (by go_simp); have c1 := at_gb g1 (a := ⟨w.heap.size, 1, none⟩) (v := .int .u32 P) (by go_simp); have c2 := at_gb g1 (a := ⟨w.heap.size, 2, none⟩) (v := .bool t) (by go_simp); have c3 := at_gb g1 (a := ⟨w.heap.size, 3, none⟩) (v := .int .u32 I) (by go_simp); have c4 := at_gb g1 (a := ⟨w.heap.size, 4, none⟩) (v := .int .u32 O) (by go_simp))
      go_ret
      exact ⟨ret_int (by rw [HW.out]; exact xor_u32 _ _ (by omega) (by omega)), (Gb.alloc (Gb.refl w) _ _).trans g1⟩
theorem Row.gb {w w' : World} {e : TypeId} {B : Nat} {zs : List Int} (h : Row w e B zs) (g : Gb w w') (hB : B < w.heap.size) : Row w' e B zs := by
  unfold Row at h ⊢
  rw [g.b.block _ hB]; exact h
theorem bw_zero (W P : Nat) (t : Bool) (r : Nat) : bw W P t r 0 = U W P r 8 := by
  unfold bw
  have : trn t 8 0 = 0 := by cases t <;> rfl
  rw [this, Nat.zero_mul, Nat.xor_zero]
theorem info8 : (Tryd.prog.info? 5).map (fun i => (i.zero, i.size, i.bytes)) = some (some (.int .u8 0), 1, 1) := by kernel_rfl
theorem between_at (W P : Nat) (I O : Int) (t : Bool) (x y : Nat) (w : World) (h8 : 8 ∣ W) (h0 : 8 ≤ W) (h32 : W ≤ 32) (hx : x < 2 ^ W) (hy : y < 2 ^ W) (hP : P < 2 ^ W) :
    Calls Tryd.prog 23 #[.agg #[.int .i64 W, .int .u32 P, .bool t, .int .u32 I, .int .u32 O], .int .u32 x, .int .u32 y] w fun e w' => e = .returned (.string (fc W t (x ^^^ U W P y W))) ∧ Gb w w' := by
  have hle := le32 W h32
  obtain ⟨n, hn⟩ := h8
  have hq : IntKind.i64.wrap ((W : Int).tdiv 8) = (n : Int) := by
    rw [Int.tdiv_eq_ediv_of_nonneg (by omega), wrap_i _ (by omega) (by omega)]; omega
  have hq' : (W : Int) / 8 = (n : Int) := by omega
  have hn4 : n ≤ 4 := by omega
  have HN : Hid (W = 8 * n) := hn
  clear hn
  go_enter Tryd.func23, Tryd.ntmps23
  go_wp2
  go_loopw [2, 15] (fun z i wr => ∃ k : Nat, k ≤ n ∧ i = .int .i64 (k : Int) ∧ z = .int .u32 (U W P y (8 * k) : Nat) ∧ Gb (w.alloc (.cells #[.int .i64 W, .int .u32 P, .bool t, .int .u32 I, .int .u32 O] 24)) wr) (fun _ i _ => n - (intOf i).toNat)
  case atStart => exact ⟨0, Nat.zero_le _, rfl, rfl, Gb.refl _⟩
  case round =>
    obtain ⟨k, hk, rfl, rfl, gr⟩ := hrel
    have d0 := at_gb gr (a := ⟨w.heap.size, 0, none⟩) (v := .int .i64 W) (by go_simp); have d1 := at_gb gr (a := ⟨w.heap.size, 1, none⟩) (v := .int .u32 P) (by go_simp); have d2 := at_gb gr (a := ⟨w.heap.size, 2, none⟩) (v := .bool t) (by go_simp); have d3 := at_gb gr (a := ⟨w.heap.size, 3, none⟩) (v := .int .u32 I) (by go_simp); have d4 := at_gb gr (a := ⟨w.heap.size, 4, none⟩) (v := .int .u32 O) (by go_simp)
    have hz := U_lt W P y (8 * k) (by omega) hP hy
    by_cases hlt : k < n
    · obtain ⟨z, hzz⟩ : ∃ z, z = U W P y (8 * k) := ⟨_, rfl⟩
      have HZ : Hid (bw W P t z 0 = U W P y (8 * (k + 1))) := by rw [bw_zero, hzz, ← U_add]; exact rfl
      rw [← hzz] at hz ⊢
      clear hzz
      have hbk : ∀ w, Calls Tryd.prog 22 #[.agg #[.int .i64 W, .int .u32 P, .bool t, .int .u32 I, .int .u32 O], .int .u32 z, .int .u8 0] w fun e w' => e = .returned (.int .u32 (bw W P t z 0 : Nat)) ∧ Gb w w' := fun w => back_at W P I O t z 0 w (by decide) h0 h32 hz hP
      go_wp2_with (go_at_call 22; refine (hbk _).mono ?_; rintro e w1 ⟨rfl, g1⟩; have c0 := at_gb g1 (a := ⟨w.heap.size, 0, none⟩) (v := .int .i64 W) (by go_simp); have c1 := at_gb g1 (a := ⟨w.heap.size, 1, none⟩) (v := .int .u32 P) (by go_simp); have c2 := at_gb g1 (a := ⟨w.heap.size, 2, none⟩) (v := .bool t) (by go_simp); have c3 := at_gb g1 (a := ⟨w.heap.size, 3, none⟩) (v := .int .u32 I) (by go_simp); have c4 := at_gb g1 (a := ⟨w.heap.size, 4, none⟩) (v := .int .u32 O) (by go_simp))
      go_roundw
      case rel => exact ⟨k + 1, by omega, by go_num, by rw [HZ.out], gr.trans g1⟩
      case measure => simp [intOf]; omega
    · obtain rfl : k = n := by omega
      have HE : Hid (U W P y (8 * k) = U W P y W) := by have := HN.out; rw [show 8 * k = W from by omega]; exact rfl
      rw [HE.out] at hz ⊢
      have hx2 := xor_u32 x (U W P y W) (by omega) (by omega)
      have hf : x ^^^ U W P y W < 2 ^ W := Nat.xor_lt_two_pow hx hz
      obtain ⟨f, hff⟩ : ∃ f, f = x ^^^ U W P y W := ⟨_, rfl⟩
      rw [← hff] at hx2 hf
      have HF : Hid (f = x ^^^ U W P y W) := hff
      clear hff
      have hmk := fun w => run_make_row' (P := Tryd.prog) 63 5 (.int .u8 0) 1 Tryd.underlying63 info8 rfl .i64 .i64 k (by omega) (by omega) w
      go_wp2
      rename World => wq
      have HR : Hid (Row (wq.alloc (.cells (madeCells #[.int .u8 0] k) 5)) 5 wq.heap.size (fillL (fun i => ((trn t 8 (f / 2 ^ (W - 8 * (i + 1)) % 256) : Nat) : Int)) k 0)) := by
        rw [fillL_zero]; exact Row.made _ _ _
      have hsz : w.heap.size + 1 ≤ wq.heap.size := by have := gr.size; simpa using this
      go_loopw [27] (fun i ws => ∃ j : Nat, j ≤ k ∧ i = .int .i64 (j : Int) ∧ Row ws 5 wq.heap.size (fillL (fun i => ((trn t 8 (f / 2 ^ (W - 8 * (i + 1)) % 256) : Nat) : Int)) k j) ∧ Gb wq ws) (fun i _ => k - (intOf i).toNat)
      case atStart => exact ⟨0, Nat.zero_le _, rfl, HR.out, (Gb.refl _).alloc _ _⟩
      case round =>
        obtain ⟨j, hj, rfl, hrow, gs⟩ := hrel
        have s0 := at_gb gs (a := ⟨w.heap.size, 0, none⟩) (v := .int .i64 W) (by go_simp); have s1 := at_gb gs (a := ⟨w.heap.size, 1, none⟩) (v := .int .u32 P) (by go_simp); have s2 := at_gb gs (a := ⟨w.heap.size, 2, none⟩) (v := .bool t) (by go_simp); have s3 := at_gb gs (a := ⟨w.heap.size, 3, none⟩) (v := .int .u32 I) (by go_simp); have s4 := at_gb gs (a := ⟨w.heap.size, 4, none⟩) (v := .int .u32 O) (by go_simp)
        by_cases hjt : j < k
        · have hc := hrow.cell (j := j) (by rw [fillL_len]; exact hjt)
          have hfz := hrow.frozen j
          obtain ⟨d, hd⟩ : ∃ d, d = W - 8 * (j + 1) := ⟨_, rfl⟩
          have hW8 := HN.out
          have q1 : IntKind.i64.wrap ((j : Int) + 1) = (j : Int) + 1 := wrap_i _ (by omega) (by omega)
          have q2 : IntKind.i64.wrap (8 * ((j : Int) + 1)) = 8 * ((j : Int) + 1) := wrap_i _ (by omega) (by omega)
          have q3 : IntKind.i64.wrap ((W : Int) - 8 * ((j : Int) + 1)) = (d : Int) := (wrap_i _ (by omega) (by omega)).trans (by omega)
          have hdl : d ≤ 32 := by omega
          obtain ⟨b, hb⟩ : ∃ b, b = f / 2 ^ d % 256 := ⟨_, rfl⟩
          have hbl : b < 256 := by rw [hb]; exact Nat.mod_lt _ (by decide)
          have q4 : IntKind.u8.wrap ((f : Int) / 2 ^ d) = (b : Int) := by
            rw [← p2, ← Int.natCast_ediv, IntKind.wrap_u8', hb, Int.natCast_emod]; rfl
          have HB : Hid (trn t 8 b = trn t 8 (f / 2 ^ (W - 8 * (j + 1)) % 256)) := by rw [hb, hd]; exact rfl
          have hne : ∀ (v : World) (i : Nat) (x : Value), (v.setCell ⟨wq.heap.size, j, none⟩ x).cell? ⟨w.heap.size, i, none⟩ = v.cell? ⟨w.heap.size, i, none⟩ := fun v i x => World.cell?_setCell_other v _ _ x (by intro e; have := congrArg Addr.block e; simp at this; omega)
          clear hd hb hW8
          go_wp2
          go_region_held3 (fun w' => (World.cell? w' ⟨w.heap.size, 0, none⟩ = some (.int .i64 W) ∧ World.cell? w' ⟨w.heap.size, 1, none⟩ = some (.int .u32 P) ∧ World.cell? w' ⟨w.heap.size, 2, none⟩ = some (.bool t) ∧ World.cell? w' ⟨w.heap.size, 3, none⟩ = some (.int .u32 I) ∧ World.cell? w' ⟨w.heap.size, 4, none⟩ = some (.int .u32 O)) ∧ w'.frozen? ⟨wq.heap.size, j, none⟩ = false) (simp (maxDischargeDepth := 9) [*]) (first | (go_at_call 27; refine (asIn_at _ _ _ _ _ b _ hbl).mono ?_; rintro e w1 ⟨rfl, g1⟩; have c0 := at_gb g1 (a := ⟨w.heap.size, 0, none⟩) (v := .int .i64 W) (by go_simp); have c1 := at_gb g1 (a := ⟨w.heap.size, 1, none⟩) (v := .int .u32 P) (by go_simp); have c2 := at_gb g1 (a := ⟨w.heap.size, 2, none⟩) (v := .bool t) (by go_simp); have c3 := at_gb g1 (a := ⟨w.heap.size, 3, none⟩) (v := .int .u32 I) (by go_simp); have c4 := at_gb g1 (a := ⟨w.heap.size, 4, none⟩) (v := .int .u32 O) (by go_simp); have hc1 := at_gb g1 hc; have hf1 : w1.frozen? ⟨wq.heap.size, j, none⟩ = false := (g1.b.frozen (lt_block hc)).trans hfz))
          go_wp2
          go_roundw
          case rel => exact ⟨j + 1, by omega, by go_num, by rw [HB.out, ← fillL_set _ k j _ rfl]; exact (Row.gb hrow.drew g1 (lt_block hc)).set _ _, (gs.drew.trans g1).setCell (Nat.le_refl _) _⟩
          case measure => simp [intOf]; omega
        · obtain rfl : j = k := by omega
          have htx := hrow.text (P := Tryd.prog) Tryd.underlying63 Tryd.underlying5 Tryd.underlying9 j (fillL_len _ _ _)
          go_wp2
          go_ret
          refine ⟨?_, (Gb.alloc (Gb.refl w) _ _).trans (gr.trans gs)⟩
          rw [← HF.out]
          unfold fc
          rw [show W / 8 = j from by have := HN.out; omega]
          rfl
theorem Rt.d8 {W P I O : Nat} (h : Rt W P I O) : 8 ∣ W := by have := h.w; omega
theorem Force_yes (W P I O : Nat) (t : Bool) (s : ByteArray) (a want : Nat) (w : World) (h : Rt W P I O) (hs : s.size ≤ 140737488351232) (ha : a ≤ s.size) (hw : want < 2 ^ W) :
    Calls Tryd.prog 12 #[.agg #[.int .i64 W, .int .u32 P, .bool t, .int .u32 I, .int .u32 O], .string s, .int .i64 a, .int .u32 want] w fun e w' => e = .returned (.tuple #[.string (fc W t (fl W P t I O s a want)), .nilIface]) ∧ Gb w w' := by
  have H : Hid (Rt W P I O) := h
  have hle := le32 W h.h32
  have hO := h.o32
  have hI := h.i
  have e1 : decide ((a : Int) < 0) = false := by simp
  have e2 : decide (s.size < a) = false := by simp; omega
  have hwi : ∀ w, Calls Tryd.prog 19 #[.int .u32 want, .int .i64 W] w fun e w' => e = .returned (.bool true) ∧ w' = w := fun w => by
    have := within_at want W w H.out.h8 H.out.h32
    rw [decide_eq_true hw] at this; exact this
  have hxw := xor_u32 want O (by omega) hO
  have hxl : want ^^^ O < 2 ^ W := Nat.xor_lt_two_pow hw h.o
  obtain ⟨x, hx⟩ : ∃ x, x = want ^^^ O := ⟨_, rfl⟩
  rw [← hx] at hxw hxl
  have HX : Hid (x = want ^^^ O) := hx
  clear h hx
  go_enter Tryd.func12, Tryd.ntmps12
  go_wp2_with (first | (go_at_call 8; refine (Right_yes W P I O t _ H.out).mono ?_; rintro e w1 ⟨rfl, g1⟩; have c0 := at_gb g1 (a := ⟨w.heap.size, 0, none⟩) (v := .int .i64 W) (by go_simp); have c1 := at_gb g1 (a := ⟨w.heap.size, 1, none⟩) (v := .int .u32 P) (by go_simp); have c2 := at_gb g1 (a := ⟨w.heap.size, 2, none⟩) (v := .bool t) (by go_simp); have c3 := at_gb g1 (a := ⟨w.heap.size, 3, none⟩) (v := .int .u32 I) (by go_simp); have c4 := at_gb g1 (a := ⟨w.heap.size, 4, none⟩) (v := .int .u32 O) (by go_simp)) | (go_at_call 19; refine (hwi _).mono ?_; rintro e w2 ⟨rfl, rfl⟩))
  go_loopw [10, 37] (fun z i wr => ∃ k : Nat, k ≤ a ∧ i = .int .i64 (k : Int) ∧ z = .int .u32 (fr W P t s I k : Nat) ∧ Gb (w.alloc (.cells #[.int .i64 W, .int .u32 P, .bool t, .int .u32 I, .int .u32 O] 24)) wr) (fun _ i _ => a - (intOf i).toNat)
  case atStart => exact ⟨0, Nat.zero_le _, rfl, rfl, g1⟩
  case round =>
    obtain ⟨k, hk, rfl, rfl, gr⟩ := hrel
    have d0 := at_gb gr (a := ⟨w.heap.size, 0, none⟩) (v := .int .i64 W) (by go_simp); have d1 := at_gb gr (a := ⟨w.heap.size, 1, none⟩) (v := .int .u32 P) (by go_simp); have d2 := at_gb gr (a := ⟨w.heap.size, 2, none⟩) (v := .bool t) (by go_simp); have d3 := at_gb gr (a := ⟨w.heap.size, 3, none⟩) (v := .int .u32 I) (by go_simp); have d4 := at_gb gr (a := ⟨w.heap.size, 4, none⟩) (v := .int .u32 O) (by go_simp)
    have hz := fr_lt W P t s I k hI
    by_cases hlt : k < a
    · have hix := run_byte (P := Tryd.prog) s k (k : Int) rfl (by omega) Tryd.underlying9
      obtain ⟨z, hzz⟩ : ∃ z, z = fr W P t s I k := ⟨_, rfl⟩
      have HZ : Hid (fr W P t s I (k + 1) = fw W P t z (byteN s k)) := by rw [hzz]; rfl
      rw [← hzz] at hz ⊢
      clear hzz
      go_wp2
      go_region_held3 (fun w' => (World.cell? w' ⟨w.heap.size, 0, none⟩ = some (.int .i64 W) ∧ World.cell? w' ⟨w.heap.size, 1, none⟩ = some (.int .u32 P) ∧ World.cell? w' ⟨w.heap.size, 2, none⟩ = some (.bool t) ∧ World.cell? w' ⟨w.heap.size, 3, none⟩ = some (.int .u32 I) ∧ World.cell? w' ⟨w.heap.size, 4, none⟩ = some (.int .u32 O))) (simp (maxDischargeDepth := 9) [*]) (first | (go_at_call 20; refine (forth_at W P I O t z (byteN s k) _ (byteN_lt s k) H.out.h8 H.out.h32 hz H.out.p).mono ?_; rintro e w3 ⟨rfl, g3⟩; have f0 := at_gb g3 (a := ⟨w.heap.size, 0, none⟩) (v := .int .i64 W) (by go_simp); have f1 := at_gb g3 (a := ⟨w.heap.size, 1, none⟩) (v := .int .u32 P) (by go_simp); have f2 := at_gb g3 (a := ⟨w.heap.size, 2, none⟩) (v := .bool t) (by go_simp); have f3 := at_gb g3 (a := ⟨w.heap.size, 3, none⟩) (v := .int .u32 I) (by go_simp); have f4 := at_gb g3 (a := ⟨w.heap.size, 4, none⟩) (v := .int .u32 O) (by go_simp)))
      go_wp2
      go_roundw
      case rel => exact ⟨k + 1, by omega, by go_num, by rw [HZ.out], gr.drew.trans g3⟩
      case measure => simp [intOf]; omega
    · obtain rfl : k = a := by omega
      rename World => wq
      obtain ⟨y, hy⟩ : ∃ y, y = fr W P t s I k := ⟨_, rfl⟩
      rw [← hy] at hz ⊢
      have HY : Hid (y = fr W P t s I k) := hy
      clear hy
      have hcast : (s.size : Int) - (k : Int) = ((s.size - k : Nat) : Int) := by omega
      obtain ⟨m, hm⟩ : ∃ m, m = s.size - k := ⟨_, rfl⟩
      rw [← hm] at hcast
      have hms : m ≤ s.size := by omega
      have HM : Hid (m = s.size - k) := hm
      clear hm
      have hq := trn_lt t W x hxl
      obtain ⟨q, hqq⟩ : ∃ q, q = trn t W x := ⟨_, rfl⟩
      rw [← hqq] at hq
      have HQ : Hid (q = trn t W x) := hqq
      have htn : ∀ w, Calls Tryd.prog 21 #[.agg #[.int .i64 W, .int .u32 P, .bool t, .int .u32 I, .int .u32 O], .int .u32 x] w fun e w' => e = .returned (.int .u32 (q : Nat)) ∧ Gb w w' := fun w => by
        rw [hqq]; exact turned_at W P I O t x w H.out.h8 H.out.h32 hxl
      clear hqq
      go_wp2_with (first | (go_at_call 21; refine (htn _).mono ?_; rintro e w3 ⟨rfl, g3⟩; have f0 := at_gb g3 (a := ⟨w.heap.size, 0, none⟩) (v := .int .i64 W) (by go_simp); have f1 := at_gb g3 (a := ⟨w.heap.size, 1, none⟩) (v := .int .u32 P) (by go_simp); have f2 := at_gb g3 (a := ⟨w.heap.size, 2, none⟩) (v := .bool t) (by go_simp); have f3 := at_gb g3 (a := ⟨w.heap.size, 3, none⟩) (v := .int .u32 I) (by go_simp); have f4 := at_gb g3 (a := ⟨w.heap.size, 4, none⟩) (v := .int .u32 O) (by go_simp)))
      clear hcast htn hxw hwi c0 c1 c2 c3 c4 d0 d1 d2 d3 d4 e1 e2
      go_loopw [12, 57] (fun z i wr => ∃ j : Nat, j ≤ m ∧ i = .int .i64 (j : Int) ∧ z = .int .u32 (bb W P t s q j : Nat) ∧ Gb w3 wr) (fun _ i _ => m - (intOf i).toNat)
      case atStart => exact ⟨0, Nat.zero_le _, rfl, rfl, Gb.refl _⟩
      case round =>
        obtain ⟨j, hj, rfl, rfl, gs⟩ := hrel
        have s0 := at_gb gs (a := ⟨w.heap.size, 0, none⟩) (v := .int .i64 W) (by go_simp); have s1 := at_gb gs (a := ⟨w.heap.size, 1, none⟩) (v := .int .u32 P) (by go_simp); have s2 := at_gb gs (a := ⟨w.heap.size, 2, none⟩) (v := .bool t) (by go_simp); have s3 := at_gb gs (a := ⟨w.heap.size, 3, none⟩) (v := .int .u32 I) (by go_simp); have s4 := at_gb gs (a := ⟨w.heap.size, 4, none⟩) (v := .int .u32 O) (by go_simp)
        clear f0 f1 f2 f3 f4
        have hv := bb_lt W P t s q j H.out.h8 H.out.p hq
        obtain ⟨v, hvv⟩ : ∃ v, v = bb W P t s q j := ⟨_, rfl⟩
        have HZ : Hid (bb W P t s q (j + 1) = bw W P t v (byteN s (s.size - 1 - j))) := by rw [hvv]; rfl
        have HV : Hid (v = bb W P t s q j) := hvv
        rw [← hvv] at hv ⊢
        clear hvv
        by_cases hlt : j < m
        · obtain ⟨p, hp⟩ : ∃ p, p = s.size - 1 - j := ⟨_, rfl⟩
          rw [← hp] at HZ
          have q1 : IntKind.i64.wrap ((s.size : Int) - 1) = (s.size : Int) - 1 := wrap_i _ (by omega) (by omega)
          have q2 : IntKind.i64.wrap ((s.size : Int) - 1 - (j : Int)) = (p : Int) := (wrap_i _ (by omega) (by omega)).trans (by omega)
          have hix := run_byte (P := Tryd.prog) s p (p : Int) rfl (by omega) Tryd.underlying9
          clear hp
          go_wp2
          go_region_held3 (fun w' => (World.cell? w' ⟨w.heap.size, 0, none⟩ = some (.int .i64 W) ∧ World.cell? w' ⟨w.heap.size, 1, none⟩ = some (.int .u32 P) ∧ World.cell? w' ⟨w.heap.size, 2, none⟩ = some (.bool t) ∧ World.cell? w' ⟨w.heap.size, 3, none⟩ = some (.int .u32 I) ∧ World.cell? w' ⟨w.heap.size, 4, none⟩ = some (.int .u32 O))) (simp (maxDischargeDepth := 9) [*]) (first | (go_at_call 22; refine (back_at W P I O t v (byteN s p) _ (byteN_lt s p) H.out.h8 H.out.h32 hv H.out.p).mono ?_; rintro e w4 ⟨rfl, g4⟩; have c0 := at_gb g4 (a := ⟨w.heap.size, 0, none⟩) (v := .int .i64 W) (by go_simp); have c1 := at_gb g4 (a := ⟨w.heap.size, 1, none⟩) (v := .int .u32 P) (by go_simp); have c2 := at_gb g4 (a := ⟨w.heap.size, 2, none⟩) (v := .bool t) (by go_simp); have c3 := at_gb g4 (a := ⟨w.heap.size, 3, none⟩) (v := .int .u32 I) (by go_simp); have c4 := at_gb g4 (a := ⟨w.heap.size, 4, none⟩) (v := .int .u32 O) (by go_simp)))
          go_wp2
          go_roundw
          case rel => exact ⟨j + 1, by omega, by go_num, by rw [HZ.out], gs.drew.trans g4⟩
          case measure => simp [intOf]; omega
        · obtain rfl : j = m := by omega
          go_wp2_with (first | (go_at_call 23; refine (between_at W P I O t y v _ H.out.d8 H.out.h8 H.out.h32 hz hv H.out.p).mono ?_; rintro e w4 ⟨rfl, g4⟩))
          go_ret2
          refine ⟨?_, (Gb.alloc (Gb.refl w) _ _).trans ((gr.trans g3).trans (gs.trans g4))⟩
          rw [fl, ← HY.out, ← HX.out, ← HQ.out, ← HM.out, ← HV.out]
          rfl
end Go.Proofs.YthimjckimggpoaaDoor.sums
