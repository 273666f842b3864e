/- The document's own: what 64 bits are, narrowed. -/
import Derived.Test.YtnhekkahiphlgaaDoorReg19
import Derived.Test.YtnhekkahiphlgaaDoorRealUn
import Derived.Test.YtnhekkahiphlgaaDoorNarV
namespace Go.Proofs.YtnhekkahiphlgaaDoor.rl
open Go.RowKit
open mem flt
attribute [local go_sem] World.cell?_alloc_some
theorem nar_big (k : Nat) (h : 5183643171103440896 ≤ k) : min (nar k) (255 * 2 ^ 23) = 2139095040 := by
  have : 255 * 2 ^ 23 ≤ nar k := by
    unfold nar
    rw [if_neg (by omega)]
    unfold rne
    omega
  omega
theorem nan32 (o sg y : Nat) (hs : sg = o * 2 ^ 31) (hy : y < 2 ^ 23) : (sg + 2143289344) ||| y = sg + (255 * 2 ^ 23 + (y ||| 2 ^ 22)) := by
  have e1 : sg + 2143289344 = 2 ^ 23 * (o * 256 + 255) + 2 ^ 22 := by omega
  have hl : (2 ^ 22 ||| y) < 2 ^ 23 := Nat.or_lt_two_pow (by omega) hy
  rw [e1, Nat.two_pow_add_eq_or_of_lt (by omega), Nat.or_assoc, ← Nat.two_pow_add_eq_or_of_lt hl, Nat.or_comm y]
  generalize 2 ^ 22 ||| y = m at *
  omega
set_option maxRecDepth 20000 in
set_option maxHeartbeats 2000000 in
theorem refNarrow_at (b r : Nat) (hb : b < 2 ^ 64) (hr : narW b = r) (w : World) :
    Calls Tryd.prog 19 #[.int .u64 b] w fun e w' => e = .returned (.int .u32 r) ∧ Gb w w' := by
  have p29 : ∀ w, Calls Tryd.prog 24 #[.int .i64 29] w fun e w' => e = .returned (.int .u64 536870912) ∧ w' = w := fun w => pow2_at 29 536870912 (by omega) rfl w
  have p63 : ∀ w, Calls Tryd.prog 24 #[.int .i64 63] w fun e w' => e = .returned (.int .u64 9223372036854775808) ∧ w' = w := fun w => pow2_at 63 9223372036854775808 (by omega) rfl w
  obtain ⟨x, hx⟩ : ∃ x, b / 2 ^ 52 % 2048 = x := ⟨_, rfl⟩
  obtain ⟨f, hf⟩ : ∃ f, b % 2 ^ 52 = f := ⟨_, rfl⟩
  obtain ⟨n, hn⟩ : ∃ n, (b / 2 ^ 63 % 2 == 1) = n := ⟨_, rfl⟩
  obtain ⟨c, hc⟩ : ∃ c, cls 2047 x f = c := ⟨_, rfl⟩
  obtain ⟨sg, hs⟩ : ∃ sg, sg = (if n then 2 ^ 31 else 0) := ⟨_, rfl⟩
  obtain ⟨o, ho⟩ : ∃ o : Nat, o = (if n then 1 else 0) := ⟨_, rfl⟩
  have hso : sg = o * 2 ^ 31 := by rw [hs, ho]; cases n <;> rfl
  have hol : o ≤ 1 := by rw [ho]; cases n <;> simp
  have cO : ∀ w, Calls Tryd.prog 25 #[.bool n] w fun e w' => e = .returned (.int .i64 (o : Int)) ∧ w' = w := fun w => (one_at n w).mono fun e w' h => ⟨by rw [h.1, ho]; cases n <;> rfl, h.2⟩
  obtain ⟨k, hk⟩ : ∃ k, b % 2 ^ 63 = k := ⟨_, rfl⟩
  have hkx : k = x * 2 ^ 52 + f := by omega
  have hfl : f < 2 ^ 52 := by omega
  have hxl : x < 2048 := by omega
  unfold narW at hr
  rw [hn, ← hs, hk, hf] at hr
  have s1 : IntKind.u32.wrap (o : Int) = (o : Int) := wrap_u32 _ (by omega) (by omega)
  have s2 : IntKind.u32.wrap ((o : Int) * 2147483648) = (sg : Int) := (wrap_u32 _ (by omega) (by omega)).trans (by omega)
  have s3 : (b : Int) % 9223372036854775808 = (k : Int) := by omega
  have s4 : IntKind.i64.wrap (k : Int) = (k : Int) := wrap_i64 _ (by omega) (by omega)
  have HN : Hid _ := hn
  have HX : Hid _ := hx
  have HF : Hid _ := hf
  have HC : Hid _ := hc
  have HR : Hid _ := hr
  have HS : Hid (sg = o * 2 ^ 31 ∧ o ≤ 1) := ⟨hso, hol⟩
  have HK : Hid (k = x * 2 ^ 52 + f ∧ x < 2048 ∧ f < 2 ^ 52) := ⟨hkx, hxl, hfl⟩
  clear hn hx hf hr hk hs ho hso hkx
  go_enter Tryd.func19, Tryd.ntmps19
  go_upto_region 4 with (first
    | (go_at_call 31; refine (refApart64 b x f n hb HN.out HX.out HF.out _).mono ?_; rintro e w1 ⟨rfl, g1⟩)
    | (go_at_call 33; refine (refClass64 b x f c hb HX.out HF.out HC.out _).mono ?_; rintro e w2 ⟨rfl, g2⟩
       have c0 := at_gb g2 (a := ⟨w1.heap.size, 0, none⟩) (v := .bool n) (by go_simp)
       have c1 := at_gb g2 (a := ⟨w1.heap.size, 1, none⟩) (v := .int .i64 x) (by go_simp)
       have c2 := at_gb g2 (a := ⟨w1.heap.size, 2, none⟩) (v := .int .u64 f) (by go_simp)
       have k2 : Gb w w2 := g1.trans (((Gb.refl w1).alloc _ _).trans g2))
    | (go_at_call 25; refine (cO _).mono ?_; rintro e w3 ⟨rfl, rfl⟩))
  clear g2 g1
  generalize w1.heap.size = R at *
  by_cases hnan : 2047 * 2 ^ 52 < k
  · have hcc : ((c : Int) == 4) = true := by
      have ⟨e1, e2, e3⟩ := HK.out
      rw [← HC.out]; unfold cls; rw [if_pos (by omega), if_neg (by omega)]; decide
    obtain ⟨y, hy⟩ : ∃ y, y = f / 2 ^ 29 := ⟨_, rfl⟩
    obtain ⟨s5, hs5⟩ : ∃ s5, s5 = sg + 2143289344 := ⟨_, rfl⟩
    have ⟨e1, e2⟩ := HS.out
    have z1 : IntKind.u32.wrap ((sg : Int) + 2143289344) = (s5 : Int) := (wrap_u32 _ (by omega) (by omega)).trans (by omega)
    have z2 : (f : Int) / 536870912 = (y : Int) := by omega
    have z2' : (f : Int).tdiv 536870912 = (y : Int) := by rw [Int.tdiv_eq_ediv_of_nonneg (by omega)]; omega
    have z3 : IntKind.u32.wrap (y : Int) = (y : Int) := wrap_u32 _ (by omega) (by omega)
    have z5 : IntKind.u64.wrap (y : Int) = (y : Int) := wrap_u64 _ (by omega) (by omega)
    have z4 : bits .or .u32 (s5 : Int) (y : Int) = (r : Int) := by
      have hr := HR.out
      rw [if_pos hnan, ← hy] at hr
      rw [u32_or_nat s5 y (by omega) (by omega), ← hr, hs5]
      congr 1
      exact nan32 o sg y e1 (by omega)
    have hcc2 : decide ((c : Int) = 4) = true := by simpa using hcc
    clear HN HX HF HC HR HK hs5 hy e1 e2 hnan hc
    go_upto_region 5 with fail
    go_region_held3 (fun w' => w'.cell? ⟨R, 2, none⟩ = some (.int .u64 f)) (go_keep) (first | (go_at_call 24; refine (p29 _).mono ?_; rintro e w4 ⟨rfl, rfl⟩))
    all_goals go_wp2
    all_goals go_ret
    all_goals exact ⟨rfl, k2.drew⟩
  · have hcc : ((c : Int) == 4) = false := by
      have ⟨e1, e2, e3⟩ := HK.out
      rw [← HC.out]; unfold cls
      by_cases h1 : x = 2047
      · rw [if_pos h1, if_pos (by omega)]; decide
      · rw [if_neg h1]; split
        · split <;> decide
        · decide
    have hcc2 : decide ((c : Int) = 4) = false := by simpa using hcc
    have HR' : Hid (sg + min (nar k) (255 * 2 ^ 23) = r) := by have := HR.out; rwa [if_neg hnan] at this
    have ⟨e1, e2⟩ := HS.out
    clear HR HN HX HF HC hc p29 cO c0 c1 c2 HK hfl hxl s1 s2 hnan
    by_cases hbig : 5183643171103440896 ≤ k
    · have hr : sg + 2139095040 = r := by have := HR'.out; rwa [nar_big k hbig] at this
      have z1 : IntKind.u32.wrap ((sg : Int) + 2139095040) = (r : Int) := (wrap_u32 _ (by omega) (by omega)).trans (by omega)
      have tb : (5183643171103440896 : Int) ≤ (k : Int) := by omega
      clear hr HR' HS e1 e2
      go_wp2_with (go_at_call 24; refine (p63 _).mono ?_; rintro e w4 ⟨rfl, rfl⟩)
      go_ret
      exact ⟨rfl, k2⟩
    · have tb : decide ((5183643171103440896 : Int) ≤ (k : Int)) = false := decide_eq_false (by omega)
      have tb2 : ((5183643171103440896 : Int) ≤ (k : Int)) = False := eq_false (by omega)
      have HKL : Hid (k < 5183643171103440896) := by show _ < _; omega
      clear e1 e2 hbig
      go_wp2_with (go_at_call 24; refine (p63 _).mono ?_; rintro e w4 ⟨rfl, rfl⟩)
      clear s3
      go_loopw [9, 10] (fun sl sh wr => ∃ lo hi : Nat, lo < hi ∧ hi ≤ 2139095040 ∧ sl = .int .i64 (lo : Int) ∧ sh = .int .i64 (hi : Int) ∧ Hid (wid lo ≤ k ∧ k < wid hi) ∧ Gb w wr) (fun sl sh _ => (intOf sh).toNat - (intOf sl).toNat)
      case atStart => exact ⟨0, 2139095040, by omega, by omega, rfl, rfl, ⟨by rw [show wid 0 = 0 from rfl]; exact Nat.zero_le _, by have := HKL.out; rw [wid_top' _ (by omega)]; omega⟩, k2⟩
      case round =>
        obtain ⟨lo, hi, hlh, hh, rfl, rfl, HI, gw⟩ := hrel
        by_cases hgo : lo + 1 < hi
        · have tg : (lo : Int) + 1 < (hi : Int) := by omega
          obtain ⟨m, hm⟩ : ∃ m, m = (lo + hi) / 2 := ⟨_, rfl⟩
          have q0 : IntKind.i64.wrap ((lo : Int) + 1) = (lo : Int) + 1 := wrap_i64 _ (by omega) (by omega)
          have q1 : IntKind.i64.wrap ((lo : Int) + (hi : Int)) = (lo : Int) + (hi : Int) := wrap_i64 _ (by omega) (by omega)
          have q2 : ((lo : Int) + (hi : Int)) / 2 = (m : Int) := by omega
          have q2' : ((lo : Int) + (hi : Int)).tdiv 2 = (m : Int) := by rw [Int.tdiv_eq_ediv_of_nonneg (by omega)]; omega
          have q3 : IntKind.u32.wrap (m : Int) = (m : Int) := wrap_u32 _ (by omega) (by omega)
          have hm1 : lo < m ∧ m < hi := by omega
          obtain ⟨V, hV⟩ : ∃ V, wid m = V := ⟨_, rfl⟩
          have hVl : V < 2047 * 2 ^ 52 := by rw [← hV]; exact wid_lt m (by omega)
          have q4 : IntKind.i64.wrap (V : Int) = (V : Int) := wrap_i64 _ (by omega) (by omega)
          have cW : ∀ w, Calls Tryd.prog 17 #[.int .u32 (m : Int)] w fun e w' => e = .returned (.int .u64 (V : Int)) ∧ Gb w w' := fun w => refWiden_at m V (by omega) (by unfold widW; rw [show (m / 2 ^ 31 % 2 == 1) = false from by simp; omega, Nat.mod_eq_of_lt (by omega), hV]; simp) w
          have HVV := hide hV
          have HM := hide hm1
          clear hV hm hm1
          by_cases hle : V ≤ k
          · have tl : (V : Int) ≤ (k : Int) := by omega
            go_wp2_with (go_at_call 17; refine (cW _).mono ?_; rintro e w4 ⟨rfl, g4⟩)
            go_roundw
            case rel => exact ⟨m, hi, HM.out.2, hh, rfl, rfl, ⟨by rw [HVV.out]; exact hle, HI.out.2⟩, gw.trans g4⟩
            case measure => have := HM.out; simp [intOf]; omega
          · have tl : ¬ (V : Int) ≤ (k : Int) := by omega
            go_wp2_with (go_at_call 17; refine (cW _).mono ?_; rintro e w4 ⟨rfl, g4⟩)
            go_roundw
            case rel => exact ⟨lo, m, HM.out.1, by have := HM.out; omega, rfl, rfl, ⟨HI.out.1, by rw [HVV.out]; omega⟩, gw.trans g4⟩
            case measure => have := HM.out; simp [intOf]; omega
        · have tg : ¬ (lo : Int) + 1 < (hi : Int) := by omega
          have HH : Hid (hi = lo + 1) := by show _ = _; omega
          have q0 : IntKind.i64.wrap ((lo : Int) + 1) = (lo : Int) + 1 := wrap_i64 _ (by omega) (by omega)
          go_upto_region 15 with fail
          have q1 : IntKind.u32.wrap (lo : Int) = (lo : Int) := wrap_u32 _ (by omega) (by omega)
          have q2 : IntKind.u32.wrap (hi : Int) = (hi : Int) := wrap_u32 _ (by omega) (by omega)
          obtain ⟨W1, hW1⟩ : ∃ W1, wid lo = W1 := ⟨_, rfl⟩
          obtain ⟨W2, hW2⟩ : ∃ W2, wid hi = W2 := ⟨_, rfl⟩
          have cW1 : ∀ w, Calls Tryd.prog 17 #[.int .u32 (lo : Int)] w fun e w' => e = .returned (.int .u64 (W1 : Int)) ∧ Gb w w' := fun w => refWiden_at lo W1 (by omega) (by unfold widW; rw [show (lo / 2 ^ 31 % 2 == 1) = false from by simp; omega, Nat.mod_eq_of_lt (by omega), hW1]; simp) w
          have cW2 : ∀ w, Calls Tryd.prog 17 #[.int .u32 (hi : Int)] w fun e w' => e = .returned (.int .u64 (W2 : Int)) ∧ Gb w w' := fun w => refWiden_at hi W2 (by omega) (by unfold widW; rw [show (hi / 2 ^ 31 % 2 == 1) = false from by simp; omega, Nat.mod_eq_of_lt (by omega), hW2]; simp) w
          have hW1l : W1 < 2 ^ 63 := by rw [← hW1]; have := wid_lt lo (by omega); omega
          have hW2l : W2 < 2 ^ 63 := by
            rw [← hW2]
            rcases Nat.lt_or_ge hi (255 * 2 ^ 23) with h | h
            · have := wid_lt hi h; omega
            · rw [wid_top' _ h]; omega
          have hkl : k < 2 ^ 63 := by have := HKL.out; omega
          obtain ⟨X, hX⟩ : ∃ X, val 52 W1 = X := ⟨_, rfl⟩
          obtain ⟨Y0, hY0⟩ : ∃ Y0, val 52 W2 = Y0 := ⟨_, rfl⟩
          obtain ⟨Z, hZ⟩ : ∃ Z, val 52 k = Z := ⟨_, rfl⟩
          obtain ⟨Y, hY⟩ : ∃ Y, val 23 hi * 2 ^ flt.U = Y := ⟨_, rfl⟩
          have cX : ∀ w, Calls Tryd.prog 41 #[.int .u64 (W1 : Int)] w fun e w' => e = .returned (.agg (ul X)) ∧ Gb w w' := fun w => by rw [← hX]; exact units_at W1 w hW1l
          have cY : ∀ w, Calls Tryd.prog 41 #[.int .u64 (W2 : Int)] w fun e w' => e = .returned (.agg (ul Y0)) ∧ Gb w w' := fun w => by rw [← hY0]; exact units_at W2 w hW2l
          have cZ : ∀ w, Calls Tryd.prog 41 #[.int .u64 (k : Int)] w fun e w' => e = .returned (.agg (ul Z)) ∧ Gb w w' := fun w => by rw [← hZ]; exact units_at k w hkl
          have HT : Hid (X ≤ Z ∧ Z < Y ∧ Y < 2 ^ (64 * 34) ∧ (hi < 2139095040 → Y0 = Y) ∧ (hi = 2139095040 → val 52 5183643171103440896 = Y) ∧ nar k = if Z - X < Y - Z ∨ (Z - X = Y - Z ∧ lo % 2 = 0) then lo else hi) := by
            rw [← hX, ← hY0, ← hZ, ← hY, ← hW1, ← hW2]
            exact nar_tail k lo hi HKL.out HH.out hh HI.out.1 HI.out.2
          clear hX hY0 hZ hY hW1 hW2 hW1l hW2l hkl HI hgo tg q0
          refine wp_region_lit ?_
          refine wpList_plain rfl (fun K hK => ?_)
          have hK' : Shut _ := hK
          clear hK
          go_simp
          refine hK'.out _ _ ?_
          clear hK' K
          try simp only [Act.put, List.setIfInBounds_toArray, List.set_cons_zero, List.set_cons_succ]
          refine wpList_plain rfl (fun K hK => ?_)
          have hK' : Shut _ := hK
          clear hK
          go_simp
          refine hK'.out _ _ ?_
          clear hK' K
          try simp only [Act.put, List.setIfInBounds_toArray, List.set_cons_zero, List.set_cons_succ]
          refine wpList_plain rfl (fun K hK => ?_)
          have hK' : Shut _ := hK
          clear hK
          go_simp
          refine (cW1 _).mono ?_
          rintro e w5 ⟨rfl, g5⟩
          refine hK'.out _ _ ?_
          clear hK' K
          try simp only [Act.put, List.setIfInBounds_toArray, List.set_cons_zero, List.set_cons_succ]
          refine wpList_plain rfl (fun K hK => ?_)
          have hK' : Shut _ := hK
          clear hK
          go_simp
          refine (cX _).mono ?_
          rintro e w6 ⟨rfl, g6⟩
          refine hK'.out _ _ ?_
          clear hK' K
          try simp only [Act.put, List.setIfInBounds_toArray, List.set_cons_zero, List.set_cons_succ]
          refine wpList_plain rfl (fun K hK => ?_)
          have hK' : Shut _ := hK
          clear hK
          go_simp
          refine hK'.out _ _ ?_
          clear hK' K
          try simp only [Act.put, List.setIfInBounds_toArray, List.set_cons_zero, List.set_cons_succ]
          refine wpList_plain rfl (fun K hK => ?_)
          have hK' : Shut _ := hK
          clear hK
          go_simp
          refine hK'.out _ _ ?_
          clear hK' K
          try simp only [Act.put, List.setIfInBounds_toArray, List.set_cons_zero, List.set_cons_succ]
          refine wpList_plain rfl (fun K hK => ?_)
          have hK' : Shut _ := hK
          clear hK
          go_simp
          refine (cW2 _).mono ?_
          rintro e w7 ⟨rfl, g7⟩
          refine hK'.out _ _ ?_
          clear hK' K
          try simp only [Act.put, List.setIfInBounds_toArray, List.set_cons_zero, List.set_cons_succ]
          refine wpList_plain rfl (fun K hK => ?_)
          have hK' : Shut _ := hK
          clear hK
          go_simp
          refine (cY _).mono ?_
          rintro e w8 ⟨rfl, g8⟩
          refine hK'.out _ _ ?_
          clear hK' K
          try simp only [Act.put, List.setIfInBounds_toArray, List.set_cons_zero, List.set_cons_succ]
          refine wpList_plain rfl (fun K hK => ?_)
          refine wp19_alloc rfl ?_
          refine hK _ _ ?_
          clear hK K
          try simp only [Act.put, List.setIfInBounds_toArray, List.set_cons_zero, List.set_cons_succ]
          refine wpList_plain rfl (fun K hK => ?_)
          refine wp19_alloc rfl ?_
          refine hK _ _ ?_
          clear hK K
          try simp only [Act.put, List.setIfInBounds_toArray, List.set_cons_zero, List.set_cons_succ]
          have gA : Gb w w8 := gw.trans (g5.trans (g6.trans (g7.trans g8)))
          have uA : Un ((w8.alloc (Obj.cells (ulf fun _ => 0).toArray 73)).alloc (Obj.cells (ulf fun _ => 0).toArray 73)) w8.heap.size (fun _ => 0) := (Un.new w8 _ _).alloc _ _
          have uB : Un ((w8.alloc (Obj.cells (ulf fun _ => 0).toArray 73)).alloc (Obj.cells (ulf fun _ => 0).toArray 73)) (w8.alloc (Obj.cells (ulf fun _ => 0).toArray 73)).heap.size (fun _ => 0) := Un.new _ _ _
          have nAB : w8.heap.size ≠ (w8.alloc (Obj.cells (ulf fun _ => 0).toArray 73)).heap.size := Nat.ne_of_lt (Un.new w8 (fun _ => 0) 73).lt
          have lA : w.heap.size ≤ w8.heap.size := gA.size
          have lB : w.heap.size ≤ (w8.alloc (Obj.cells (ulf fun _ => 0).toArray 73)).heap.size := (gA.alloc _ _).size
          have g9 : Gb w ((w8.alloc (Obj.cells (ulf fun _ => 0).toArray 73)).alloc (Obj.cells (ulf fun _ => 0).toArray 73)) := (gA.alloc _ _).alloc _ _
          generalize (w8.alloc (Obj.cells (ulf fun _ => 0).toArray 73)).alloc (Obj.cells (ulf fun _ => 0).toArray 73) = w9 at *
          generalize (w8.alloc (Obj.cells (ulf fun _ => 0).toArray 73)).heap.size = B at *
          generalize w8.heap.size = A at *
          clear gA g5 g6 g7 g8 gw cW1 cW2 cX cY k2 p63 q1 q2
          refine wpList_store_mid rfl 73 _ _ rfl A 0 (ulf (wd X)).toArray rfl rfl (by simpa [ulf_len] using uA.there) (by simpa [ulf_len] using info34) (ulf_one _) ?_
          have uA2 := uA.setAll (wd X)
          have uB2 := uB.farAll nAB.symm (ulf (wd X))
          have g10 := gb_setCells lA (ulf (wd X)) 0 w9 g9
          change wpList _ _ _ _ _ (w9.setCells A 0 (ulf (wd X)))
          generalize w9.setCells A 0 (ulf (wd X)) = w10 at *
          try simp only [Act.put]
          refine wpList_store_mid rfl 73 _ _ rfl B 0 (ulf (wd Y0)).toArray rfl rfl (by simpa [ulf_len] using uB2.there) (by simpa [ulf_len] using info34) (ulf_one _) ?_
          have uA3 := uA2.farAll nAB (ulf (wd Y0))
          have uB3 := uB2.setAll (wd Y0)
          have g11 := gb_setCells lB (ulf (wd Y0)) 0 w10 g10
          change wpList _ _ _ _ _ (w10.setCells B 0 (ulf (wd Y0)))
          generalize w10.setCells B 0 (ulf (wd Y0)) = w11 at *
          try simp only [Act.put]
          clear uA uB g9 uA2 uB2 g10
          have s5 : IntKind.u64.wrap (k : Int) = (k : Int) := wrap_u64 _ (by have := HKL.out; omega) (by have := HKL.out; omega)
          by_cases htop : hi = 2139095040
          · have te : ((hi : Int) == 2139095040) = true := by rw [htop]; rfl
            have HTOP := hide htop
            clear htop
            go_upto_region 17 with fail
            have cT : ∀ w, Calls Tryd.prog 41 #[.int .u64 5183643171103440896] w fun e w' => e = .returned (.agg (ul Y)) ∧ Gb w w' := fun w => by rw [← HT.out.2.2.2.2.1 HTOP.out]; exact units_at 5183643171103440896 w (by omega)
            refine wp_region_lit ?_
            refine wpList_plain rfl (fun K hK => ?_)
            have hK' : Shut _ := hK
            clear hK
            go_simp
            refine (cT _).mono ?_
            rintro e w12 ⟨rfl, g12⟩
            refine hK'.out _ _ ?_
            clear hK' K
            try simp only [Act.put, List.setIfInBounds_toArray, List.set_cons_zero, List.set_cons_succ]
            have uA4 := uA3.gb g12
            have uB4 := uB3.gb g12
            have g13 := g11.trans g12
            refine wpList_store_mid rfl 73 _ _ rfl B 0 (ulf (wd Y)).toArray rfl rfl (by simpa [ulf_len] using uB4.there) (by simpa [ulf_len] using info34) (ulf_one _) ?_
            have uAq := uA4.farAll nAB (ulf (wd Y))
            have uBq := uB4.setAll (wd Y)
            have gq := gb_setCells lB (ulf (wd Y)) 0 w12 g13
            change wpList _ _ _ _ _ (w12.setCells B 0 (ulf (wd Y)))
            generalize w12.setCells B 0 (ulf (wd Y)) = wq at *
            try simp only [Act.put]
            clear uA3 uB3 g11 g12 uA4 uB4 g13 cT
            go_upto_region 18 with fail
            refine wp_region_lit ?_
            refine wpList_plain rfl (fun K hK => ?_)
            have hK' : Shut _ := hK
            clear hK
            go_simp
            refine hK'.out _ _ ?_
            clear hK' K
            try simp only [Act.put, List.setIfInBounds_toArray, List.set_cons_zero, List.set_cons_succ]
            refine wpList_plain rfl (fun K hK => ?_)
            have hK' : Shut _ := hK
            clear hK
            go_simp
            refine hK'.out _ _ ?_
            clear hK' K
            try simp only [Act.put, List.setIfInBounds_toArray, List.set_cons_zero, List.set_cons_succ]
            refine wpList_plain rfl (fun K hK => ?_)
            have hK' : Shut _ := hK
            clear hK
            go_simp
            refine (cZ _).mono ?_
            rintro e w14 ⟨rfl, g14⟩
            refine hK'.out _ _ ?_
            clear hK' K
            try simp only [Act.put, List.setIfInBounds_toArray, List.set_cons_zero, List.set_cons_succ]
            refine wpList_plain rfl (fun K hK => ?_)
            refine wp19_alloc rfl ?_
            refine hK _ _ ?_
            clear hK K
            try simp only [Act.put, List.setIfInBounds_toArray, List.set_cons_zero, List.set_cons_succ]
            have gC := gq.trans g14
            have vA := (uAq.gb g14).alloc (ulf fun _ => 0).toArray 73
            have vB := (uBq.gb g14).alloc (ulf fun _ => 0).toArray 73
            have vC := Un.new w14 (fun _ => 0) 73
            have nAC : A ≠ w14.heap.size := Nat.ne_of_lt (uAq.gb g14).lt
            have nBC : B ≠ w14.heap.size := Nat.ne_of_lt (uBq.gb g14).lt
            have lC : w.heap.size ≤ w14.heap.size := gC.size
            have g15 : Gb w (w14.alloc (Obj.cells (ulf fun _ => 0).toArray 73)) := gC.alloc _ _
            generalize w14.alloc (Obj.cells (ulf fun _ => 0).toArray 73) = w15 at *
            generalize w14.heap.size = C at *
            refine wpList_store_mid rfl 73 _ _ rfl C 0 (ulf (wd Z)).toArray rfl rfl (by simpa [ulf_len] using vC.there) (by simpa [ulf_len] using info34) (ulf_one _) ?_
            have vA2 := vA.farAll nAC (ulf (wd Z))
            have vB2 := vB.farAll nBC (ulf (wd Z))
            have vC2 := vC.setAll (wd Z)
            have g16 := gb_setCells lC (ulf (wd Z)) 0 w15 g15
            change wpList _ _ _ _ _ (w15.setCells C 0 (ulf (wd Z)))
            generalize w15.setCells C 0 (ulf (wd Z)) = w16 at *
            try simp only [Act.put]
            clear vA vB vC g15 gC uAq uBq gq g14 cZ
            go_upto_region 19 with fail
            refine wp_region_noPanic ?_
            refine reg19 vA2 vB2 vC2 HT.out.1 (Nat.le_of_lt HT.out.2.1) (fun _ _ _ _ _ h => h) ?_
            intro p q w17 up uq g17
            refine NoPanic.normal ?_
            have g18 := g16.trans g17
            clear vA2 vB2 vC2 g16 g17
            go_upto_region 20 with fail
            obtain ⟨v, hv⟩ : ∃ v, cm (Z - X) (Y - Z) = v := ⟨_, rfl⟩
            have cC : ∀ w, Calls Tryd.prog 43 #[.agg (ulf (wd (Z - X))).toArray, .agg (ulf (wd (Y - Z))).toArray] w fun e w' => e = .returned (.int .i64 v) ∧ Gb w w' := fun w => by
              rw [← hv]
              exact cmp_at (Z - X) (Y - Z) w (Nat.lt_of_le_of_lt (Nat.sub_le _ _) (Nat.lt_trans HT.out.2.1 HT.out.2.2.1)) (Nat.lt_of_le_of_lt (Nat.sub_le _ _) HT.out.2.2.1)
            refine wp_region_lit ?_
            refine wpList_load_mid rfl 73 _ rfl p 0 rfl (ulf (wd (Z - X))) _ up.range Tryd.underlying73 rfl (by rw [ulf_len]; exact info34) ?_
            try simp only [Act.put, List.setIfInBounds_toArray, List.set_cons_zero, List.set_cons_succ]
            refine wpList_load_mid rfl 73 _ rfl q 0 rfl (ulf (wd (Y - Z))) _ uq.range Tryd.underlying73 rfl (by rw [ulf_len]; exact info34) ?_
            try simp only [Act.put, List.setIfInBounds_toArray, List.set_cons_zero, List.set_cons_succ]
            refine wpList_plain rfl (fun K hK => ?_)
            have hK' : Shut _ := hK
            clear hK
            go_simp
            refine (cC _).mono ?_
            rintro e w19 ⟨rfl, g19⟩
            refine hK'.out _ _ ?_
            clear hK' K
            try simp only [Act.put, List.setIfInBounds_toArray, List.set_cons_zero, List.set_cons_succ]
            have g20 := g18.trans g19
            have hN := HT.out.2.2.2.2.2
            have hRR := HR'.out
            have ⟨e1, e2⟩ := HS.out
            have hHH := HH.out
            rcases Nat.lt_trichotomy (Z - X) (Y - Z) with h | h | h
            · have hv1 : v = -1 := by rw [← hv]; unfold cm; rw [if_pos h]
              subst hv1
              rw [if_pos (Or.inl h)] at hN
              rw [hN] at hRR
              clear hv
              have z1 : IntKind.u32.wrap ((sg : Int) + (lo : Int)) = (r : Int) := (wrap_u32 _ (by omega) (by omega)).trans (by omega)
              have z2 : IntKind.u32.wrap (lo : Int) = (lo : Int) := wrap_u32 _ (by omega) (by omega)
              clear hN hRR HR' HT HS e1 e2 h hHH HH HKL hh hlh
              go_wp2
              go_ret
              exact ⟨rfl, g20⟩
            · have hv1 : v = 0 := by rw [← hv]; unfold cm; rw [if_neg (by omega), if_pos h]
              subst hv1
              clear hv
              by_cases hp : lo % 2 = 0
              · rw [if_pos (Or.inr ⟨h, hp⟩)] at hN
                rw [hN] at hRR
                have m1 : (lo : Int) % 2 = 0 := by omega
                have m2 : (lo : Int).tmod 2 = 0 := by rw [Int.tmod_eq_emod_of_nonneg (by omega)]; omega
                clear hp
                have z1 : IntKind.u32.wrap ((sg : Int) + (lo : Int)) = (r : Int) := (wrap_u32 _ (by omega) (by omega)).trans (by omega)
                have z2 : IntKind.u32.wrap (lo : Int) = (lo : Int) := wrap_u32 _ (by omega) (by omega)
                clear hN hRR HR' HT HS e1 e2 h hHH HH HKL hh hlh
                go_wp2
                go_ret
                exact ⟨rfl, g20⟩
              · rw [if_neg (by omega)] at hN
                rw [hN] at hRR
                have m1 : (lo : Int) % 2 = 1 := by omega
                have m2 : (lo : Int).tmod 2 = 1 := by rw [Int.tmod_eq_emod_of_nonneg (by omega)]; omega
                clear hp
                have z1 : IntKind.u32.wrap ((sg : Int) + (hi : Int)) = (r : Int) := (wrap_u32 _ (by omega) (by omega)).trans (by omega)
                have z2 : IntKind.u32.wrap (hi : Int) = (hi : Int) := wrap_u32 _ (by omega) (by omega)
                clear hN hRR HR' HT HS e1 e2 h hHH HH HKL hh hlh
                go_wp2
                go_ret
                exact ⟨rfl, g20⟩
            · have hv1 : v = 1 := by rw [← hv]; unfold cm; rw [if_neg (by omega), if_neg (by omega)]
              subst hv1
              rw [if_neg (by omega)] at hN
              rw [hN] at hRR
              clear hv
              have z1 : IntKind.u32.wrap ((sg : Int) + (hi : Int)) = (r : Int) := (wrap_u32 _ (by omega) (by omega)).trans (by omega)
              have z2 : IntKind.u32.wrap (hi : Int) = (hi : Int) := wrap_u32 _ (by omega) (by omega)
              clear hN hRR HR' HT HS e1 e2 h hHH HH HKL hh hlh
              go_wp2
              go_ret
              exact ⟨rfl, g20⟩
          · have te : ((hi : Int) == 2139095040) = false := by simp; omega
            have hYY : Y0 = Y := HT.out.2.2.2.1 (by omega)
            subst hYY
            clear htop
            have uAq := uA3
            have uBq := uB3
            have gq := g11
            clear uA3 uB3 g11
            go_upto_region 18 with fail
            refine wp_region_lit ?_
            refine wpList_plain rfl (fun K hK => ?_)
            have hK' : Shut _ := hK
            clear hK
            go_simp
            refine hK'.out _ _ ?_
            clear hK' K
            try simp only [Act.put, List.setIfInBounds_toArray, List.set_cons_zero, List.set_cons_succ]
            refine wpList_plain rfl (fun K hK => ?_)
            have hK' : Shut _ := hK
            clear hK
            go_simp
            refine hK'.out _ _ ?_
            clear hK' K
            try simp only [Act.put, List.setIfInBounds_toArray, List.set_cons_zero, List.set_cons_succ]
            refine wpList_plain rfl (fun K hK => ?_)
            have hK' : Shut _ := hK
            clear hK
            go_simp
            refine (cZ _).mono ?_
            rintro e w14 ⟨rfl, g14⟩
            refine hK'.out _ _ ?_
            clear hK' K
            try simp only [Act.put, List.setIfInBounds_toArray, List.set_cons_zero, List.set_cons_succ]
            refine wpList_plain rfl (fun K hK => ?_)
            refine wp19_alloc rfl ?_
            refine hK _ _ ?_
            clear hK K
            try simp only [Act.put, List.setIfInBounds_toArray, List.set_cons_zero, List.set_cons_succ]
            have gC := gq.trans g14
            have vA := (uAq.gb g14).alloc (ulf fun _ => 0).toArray 73
            have vB := (uBq.gb g14).alloc (ulf fun _ => 0).toArray 73
            have vC := Un.new w14 (fun _ => 0) 73
            have nAC : A ≠ w14.heap.size := Nat.ne_of_lt (uAq.gb g14).lt
            have nBC : B ≠ w14.heap.size := Nat.ne_of_lt (uBq.gb g14).lt
            have lC : w.heap.size ≤ w14.heap.size := gC.size
            have g15 : Gb w (w14.alloc (Obj.cells (ulf fun _ => 0).toArray 73)) := gC.alloc _ _
            generalize w14.alloc (Obj.cells (ulf fun _ => 0).toArray 73) = w15 at *
            generalize w14.heap.size = C at *
            refine wpList_store_mid rfl 73 _ _ rfl C 0 (ulf (wd Z)).toArray rfl rfl (by simpa [ulf_len] using vC.there) (by simpa [ulf_len] using info34) (ulf_one _) ?_
            have vA2 := vA.farAll nAC (ulf (wd Z))
            have vB2 := vB.farAll nBC (ulf (wd Z))
            have vC2 := vC.setAll (wd Z)
            have g16 := gb_setCells lC (ulf (wd Z)) 0 w15 g15
            change wpList _ _ _ _ _ (w15.setCells C 0 (ulf (wd Z)))
            generalize w15.setCells C 0 (ulf (wd Z)) = w16 at *
            try simp only [Act.put]
            clear vA vB vC g15 gC uAq uBq gq g14 cZ
            go_upto_region 19 with fail
            refine wp_region_noPanic ?_
            refine reg19 vA2 vB2 vC2 HT.out.1 (Nat.le_of_lt HT.out.2.1) (fun _ _ _ _ _ h => h) ?_
            intro p q w17 up uq g17
            refine NoPanic.normal ?_
            have g18 := g16.trans g17
            clear vA2 vB2 vC2 g16 g17
            go_upto_region 20 with fail
            obtain ⟨v, hv⟩ : ∃ v, cm (Z - X) (Y0 - Z) = v := ⟨_, rfl⟩
            have cC : ∀ w, Calls Tryd.prog 43 #[.agg (ulf (wd (Z - X))).toArray, .agg (ulf (wd (Y0 - Z))).toArray] w fun e w' => e = .returned (.int .i64 v) ∧ Gb w w' := fun w => by
              rw [← hv]
              exact cmp_at (Z - X) (Y0 - Z) w (Nat.lt_of_le_of_lt (Nat.sub_le _ _) (Nat.lt_trans HT.out.2.1 HT.out.2.2.1)) (Nat.lt_of_le_of_lt (Nat.sub_le _ _) HT.out.2.2.1)
            refine wp_region_lit ?_
            refine wpList_load_mid rfl 73 _ rfl p 0 rfl (ulf (wd (Z - X))) _ up.range Tryd.underlying73 rfl (by rw [ulf_len]; exact info34) ?_
            try simp only [Act.put, List.setIfInBounds_toArray, List.set_cons_zero, List.set_cons_succ]
            refine wpList_load_mid rfl 73 _ rfl q 0 rfl (ulf (wd (Y0 - Z))) _ uq.range Tryd.underlying73 rfl (by rw [ulf_len]; exact info34) ?_
            try simp only [Act.put, List.setIfInBounds_toArray, List.set_cons_zero, List.set_cons_succ]
            refine wpList_plain rfl (fun K hK => ?_)
            have hK' : Shut _ := hK
            clear hK
            go_simp
            refine (cC _).mono ?_
            rintro e w19 ⟨rfl, g19⟩
            refine hK'.out _ _ ?_
            clear hK' K
            try simp only [Act.put, List.setIfInBounds_toArray, List.set_cons_zero, List.set_cons_succ]
            have g20 := g18.trans g19
            have hN := HT.out.2.2.2.2.2
            have hRR := HR'.out
            have ⟨e1, e2⟩ := HS.out
            have hHH := HH.out
            rcases Nat.lt_trichotomy (Z - X) (Y0 - Z) with h | h | h
            · have hv1 : v = -1 := by rw [← hv]; unfold cm; rw [if_pos h]
              subst hv1
              rw [if_pos (Or.inl h)] at hN
              rw [hN] at hRR
              clear hv
              have z1 : IntKind.u32.wrap ((sg : Int) + (lo : Int)) = (r : Int) := (wrap_u32 _ (by omega) (by omega)).trans (by omega)
              have z2 : IntKind.u32.wrap (lo : Int) = (lo : Int) := wrap_u32 _ (by omega) (by omega)
              clear hN hRR HR' HT HS e1 e2 h hHH HH HKL hh hlh
              go_wp2
              go_ret
              exact ⟨rfl, g20⟩
            · have hv1 : v = 0 := by rw [← hv]; unfold cm; rw [if_neg (by omega), if_pos h]
              subst hv1
              clear hv
              by_cases hp : lo % 2 = 0
              · rw [if_pos (Or.inr ⟨h, hp⟩)] at hN
                rw [hN] at hRR
                have m1 : (lo : Int) % 2 = 0 := by omega
                have m2 : (lo : Int).tmod 2 = 0 := by rw [Int.tmod_eq_emod_of_nonneg (by omega)]; omega
                clear hp
                have z1 : IntKind.u32.wrap ((sg : Int) + (lo : Int)) = (r : Int) := (wrap_u32 _ (by omega) (by omega)).trans (by omega)
                have z2 : IntKind.u32.wrap (lo : Int) = (lo : Int) := wrap_u32 _ (by omega) (by omega)
                clear hN hRR HR' HT HS e1 e2 h hHH HH HKL hh hlh
                go_wp2
                go_ret
                exact ⟨rfl, g20⟩
              · rw [if_neg (by omega)] at hN
                rw [hN] at hRR
                have m1 : (lo : Int) % 2 = 1 := by omega
                have m2 : (lo : Int).tmod 2 = 1 := by rw [Int.tmod_eq_emod_of_nonneg (by omega)]; omega
                clear hp
                have z1 : IntKind.u32.wrap ((sg : Int) + (hi : Int)) = (r : Int) := (wrap_u32 _ (by omega) (by omega)).trans (by omega)
                have z2 : IntKind.u32.wrap (hi : Int) = (hi : Int) := wrap_u32 _ (by omega) (by omega)
                clear hN hRR HR' HT HS e1 e2 h hHH HH HKL hh hlh
                go_wp2
                go_ret
                exact ⟨rfl, g20⟩
            · have hv1 : v = 1 := by rw [← hv]; unfold cm; rw [if_neg (by omega), if_neg (by omega)]
              subst hv1
              rw [if_neg (by omega)] at hN
              rw [hN] at hRR
              clear hv
              have z1 : IntKind.u32.wrap ((sg : Int) + (hi : Int)) = (r : Int) := (wrap_u32 _ (by omega) (by omega)).trans (by omega)
              have z2 : IntKind.u32.wrap (hi : Int) = (hi : Int) := wrap_u32 _ (by omega) (by omega)
              clear hN hRR HR' HT HS e1 e2 h hHH HH HKL hh hlh
              go_wp2
              go_ret
              exact ⟨rfl, g20⟩
end Go.Proofs.YtnhekkahiphlgaaDoor.rl
