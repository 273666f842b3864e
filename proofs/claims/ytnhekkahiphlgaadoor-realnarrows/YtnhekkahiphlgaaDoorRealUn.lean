/- The document's own: a real in units of 2^-1074. -/
import Derived.Test.YtnhekkahiphlgaaDoorUnLess
namespace Go.Proofs.YtnhekkahiphlgaaDoor.rl
open Go.RowKit
open mem flt
attribute [local go_sem] World.cell?_alloc_some
theorem wd_shift (M s i j : Nat) (hM : M < 2 ^ 53) (hs : s < 64) : wd (M * 2 ^ (64 * i + s)) j = if j = i then M * 2 ^ s % 18446744073709551616 else if j = i + 1 then M * 2 ^ s / 18446744073709551616 else 0 := by
  have hP : M * 2 ^ s < 2 ^ 117 := by
    calc M * 2 ^ s < 2 ^ 53 * 2 ^ s := Nat.mul_lt_mul_of_pos_right hM (Nat.two_pow_pos s)
      _ = 2 ^ (53 + s) := (Nat.pow_add ..).symm
      _ ≤ 2 ^ 117 := Nat.pow_le_pow_right (by omega) (by omega)
  have e : M * 2 ^ (64 * i + s) = 2 ^ (64 * i) * (M * 2 ^ s) := by rw [Nat.pow_add, Nat.mul_left_comm]
  rw [e]
  generalize M * 2 ^ s = P at *
  unfold wd
  rcases Nat.lt_trichotomy j i with h | h | h
  · obtain ⟨t, rfl⟩ : ∃ t, i = j + t + 1 := ⟨i - j - 1, by omega⟩
    rw [if_neg (by omega), if_neg (by omega)]
    have e2 : 2 ^ (64 * (j + t + 1)) * P = 2 ^ (64 * j) * (18446744073709551616 * (2 ^ (64 * t) * P)) := by
      rw [show 64 * (j + t + 1) = 64 * j + (64 + 64 * t) from by omega, Nat.pow_add, Nat.pow_add, Nat.mul_assoc, Nat.mul_assoc]
    rw [e2, Nat.mul_div_cancel_left _ (Nat.two_pow_pos _), Nat.mul_mod_right]
  · subst h
    rw [if_pos rfl, Nat.mul_div_cancel_left _ (Nat.two_pow_pos _)]
  · obtain ⟨t, rfl⟩ : ∃ t, j = i + t + 1 := ⟨j - i - 1, by omega⟩
    rw [if_neg (by omega)]
    have e2 : 2 ^ (64 * (i + t + 1)) = 2 ^ (64 * i) * 2 ^ (64 * (t + 1)) := by rw [← Nat.pow_add]; congr 1; omega
    rw [e2, Nat.mul_div_mul_left _ _ (Nat.two_pow_pos _)]
    rcases Nat.eq_zero_or_pos t with h0 | h0
    · subst h0
      rw [if_pos rfl]
      change P / 18446744073709551616 % 18446744073709551616 = _
      omega
    · rw [if_neg (by omega), Nat.div_eq_of_lt]
      exact Nat.lt_of_lt_of_le hP (Nat.pow_le_pow_right (by omega) (by omega))
theorem shr_hi (M s : Nat) (hs : s ≤ 64) : M / 2 ^ (64 - s) = M * 2 ^ s / 18446744073709551616 := by
  have e : 18446744073709551616 = 2 ^ (64 - s) * 2 ^ s := by rw [← Nat.pow_add, Nat.sub_add_cancel hs]
  rw [e, Nat.mul_div_mul_right _ _ (Nat.two_pow_pos s)]
set_option maxHeartbeats 1000000 in
theorem units_at (b : Nat) (w : World) (hb : b < 2 ^ 63) :
    Calls Tryd.prog 41 #[.int .u64 (b : Int)] w fun e w' => e = .returned (.agg (ul (val 52 b))) ∧ Gb w w' := by
  obtain ⟨V, hVV⟩ : ∃ V, val 52 b = V := ⟨_, rfl⟩
  rw [hVV]
  have HVV := hide hVV
  clear hVV
  unfold ul
  obtain ⟨x, hx⟩ : ∃ x, b / 2 ^ 52 % 2048 = x := ⟨_, rfl⟩
  obtain ⟨f, hf⟩ : ∃ f, b % 2 ^ 52 = f := ⟨_, rfl⟩
  have hn : (b / 2 ^ 63 % 2 == 1) = false := by simp; omega
  have hb64 : b < 2 ^ 64 := by omega
  go_enter Tryd.func41, Tryd.ntmps41
  go_upto_region 3 with (go_at_call 31; refine (refApart64 b x f false hb64 hn hx hf _).mono ?_; rintro e w1 ⟨rfl, g1⟩)
  rw [zeros34] at g1
  have u0 := (Un.new w (fun _ => 0) 73).gb g1
  have k1 := ((Gb.refl w).alloc (ulf fun _ => 0).toArray 73).trans g1
  have hxl : x < 2048 := by omega
  have hfl : f < 2 ^ 52 := by omega
  have kx : IntKind.i64.wrap ((x : Int) - 1) = (x : Int) - 1 := wrap_i64 _ (by omega) (by omega)
  go_region_held3 (fun w' => w'.cell? ⟨w1.heap.size, 1, none⟩ = some (.int .i64 x) ∧ w'.cell? ⟨w1.heap.size, 2, none⟩ = some (.int .u64 f)) (go_keep) (fail)
  have p52 : ∀ w, Calls Tryd.prog 24 #[.int .i64 52] w fun e w' => e = .returned (.int .u64 4503599627370496) ∧ w' = w := fun w => pow2_at 52 4503599627370496 (by omega) rfl w
  have u1 : Un (w1.alloc (Obj.cells #[Value.bool false, Value.int IntKind.i64 x, Value.int IntKind.u64 f] 24)).drew w.heap.size (fun _ => 0) := (u0.alloc _ _).drew
  have k2 : Gb w (w1.alloc (Obj.cells #[Value.bool false, Value.int IntKind.i64 x, Value.int IntKind.u64 f] 24)).drew := (k1.alloc _ _).drew
  have x0 : (w1.alloc (Obj.cells #[Value.bool false, Value.int IntKind.i64 x, Value.int IntKind.u64 f] 24)).drew.cell? ⟨w1.heap.size, 1, none⟩ = some (.int .i64 x) := by go_simp
  clear u0 k1 g1
  generalize (w1.alloc (Obj.cells #[Value.bool false, Value.int IntKind.i64 x, Value.int IntKind.u64 f] 24)).drew = w2 at *
  generalize w1.heap.size = R at *
  by_cases hx0 : 0 < x
  · have tx : (0 : Int) < (x : Int) := by omega
    go_upto_region 7 with (go_at_call 24; refine (p52 _).mono ?_; rintro e w3 ⟨rfl, rfl⟩)
    obtain ⟨M, hM⟩ : ∃ M, M = 2 ^ 52 + f := ⟨_, rfl⟩
    obtain ⟨E, hE⟩ : ∃ E, E = x - 1 := ⟨_, rfl⟩
    obtain ⟨i, hEi⟩ : ∃ i, i = E / 64 := ⟨_, rfl⟩
    obtain ⟨s, hEs⟩ : ∃ s, s = E % 64 := ⟨_, rfl⟩
    obtain ⟨Lo, hLo⟩ : ∃ Lo, Lo = M * 2 ^ s % 18446744073709551616 := ⟨_, rfl⟩
    obtain ⟨Hi, hHi⟩ : ∃ Hi, Hi = M * 2 ^ s / 18446744073709551616 := ⟨_, rfl⟩
    have hV : M * 2 ^ (64 * i + s) = V := by
      symm; rw [← HVV.out, hM, show 64 * i + s = E from by omega, hE]
      exact val_at (x - 1) f hfl (by omega)
    have hMl : M < 2 ^ 53 := by omega
    have HM := hide hMl
    rw [show (f : Int) + 4503599627370496 = (M : Int) from by omega, show (x : Int) - 1 = (E : Int) from by omega]
    have hEl : E < 2048 := by omega
    clear hM hE tx hx0 hfl hf hx hn hxl
    rw [zeros34]
    have u4 := Un.new w3 (fun _ => 0) 73
    have u5 := u1.alloc (ulf fun _ => 0).toArray 73
    have k4 := k2.alloc (ulf fun _ => 0).toArray 73
    have ng : w.heap.size ≠ w3.heap.size := Nat.ne_of_lt (lt_block (a := ⟨w.heap.size, 0, none⟩) (u1 0 (by omega)).1)
    have lg : w.heap.size ≤ w3.heap.size := k2.size
    clear u1 k2 x0 p52 kx
    generalize w3.alloc (Obj.cells (ulf fun _ => 0).toArray 73) = w4 at *
    generalize w3.heap.size = U at *
    obtain ⟨g, hg⟩ : ∃ g, w.heap.size = g := ⟨_, rfl⟩
    rw [hg] at u5 ng lg
    rw [hg]
    have hi : i < 33 := by omega
    have c1 := (u4 i (by omega)).1
    have f1 := (u4 i (by omega)).2
    have q1 : (E : Int) / 64 = (i : Int) := by omega
    have q2 : (E : Int) % 64 = (s : Int) := by omega
    have q1' : (E : Int).tdiv 64 = (i : Int) := by rw [Int.tdiv_eq_ediv_of_nonneg (by omega)]; omega
    have q2' : (E : Int).tmod 64 = (s : Int) := by rw [Int.tmod_eq_emod_of_nonneg (by omega)]; omega
    have hi0 : (0 : Int) ≤ (i : Int) := by omega
    have hi1 : (i : Int) < 34 := by omega
    have hs0 : ¬ (s : Int) < 0 := by omega
    have hs64 : (s : Int) < 64 := by omega
    have hlo : IntKind.u64.wrap ((M : Int) * 2 ^ s) = (Lo : Int) := by
      have e : ((M : Int) * 2 ^ s) = ((M * 2 ^ s : Nat) : Int) := by rw [Int.natCast_mul, Int.natCast_pow]; rfl
      rw [e, IntKind.wrap_u64, hLo]; omega
    have hhi : (M : Int) / 2 ^ (64 - s) = (Hi : Int) := by
      have e : (2 : Int) ^ (64 - s) = ((2 ^ (64 - s) : Nat) : Int) := by rw [Int.natCast_pow]; rfl
      rw [e, hHi, ← shr_hi M s (by omega), Int.natCast_ediv]
    have w1' : IntKind.i64.wrap ((i : Int) + 1) = (i : Int) + 1 := wrap_i64 _ (by omega) (by omega)
    have w2' : IntKind.i64.wrap (64 - (s : Int)) = 64 - (s : Int) := wrap_i64 _ (by omega) (by omega)
    have hsl : s < 64 := by omega
    have HLO := hide hLo
    have HHI := hide hHi
    have HV := hide hV
    clear hLo hHi hV hEi hEs hMl hEl
    by_cases hs : 0 < s
    · have ts : (0 : Int) < (s : Int) := by omega
      go_upto_region 10 with fail
      have u6 := u4.set (f' := fun j => if j = i then Lo else 0) i Lo (by omega) (if_pos rfl) (fun j _ hj => if_neg hj)
      have u7 := u5.far ng i (.int .u64 (Lo : Int))
      have k5 : Gb w (w4.setCell ⟨U, i, none⟩ (.int .u64 (Lo : Int))) := k4.setCell (by rw [hg]; exact lg) _
      clear u4 u5 k4 c1 f1
      generalize w4.setCell ⟨U, i, none⟩ (.int .u64 (Lo : Int)) = w5 at *
      have c2 := (u6 (i + 1) (by omega)).1
      have f2 := (u6 (i + 1) (by omega)).2
      have hi2 : (i : Int) + 1 < 34 := by omega
      go_upto_region 11 with fail
      have u8 := u6.set (f' := fun j => if j = i then Lo else if j = i + 1 then Hi else 0) (i + 1) Hi (by omega) (by rw [if_neg (by omega), if_pos rfl]) (fun j _ hj => by rw [if_neg hj])
      have u9 := u7.far ng (i + 1) (.int .u64 (Hi : Int))
      have kx : Gb w (w5.setCell ⟨U, i + 1, none⟩ (.int .u64 (Hi : Int))) := k5.setCell (by rw [hg]; exact lg) _
      generalize w5.setCell ⟨U, i + 1, none⟩ (.int .u64 (Hi : Int)) = wx at *
      have r1 := u8.range
      rw [ulf_congr (g := wd V) fun j _ => by rw [← HV.out, wd_shift M s i j HM.out hsl, ← HLO.out, ← HHI.out]] at r1
      have t3 := u9.there
      clear u6 u7 u8 u9 k5 c2 f2
      refine wp_region_lit ?_
      refine wpList_load_mid rfl 73 _ rfl U 0 rfl (ulf (wd V)) _ r1 Tryd.underlying73 rfl (by rw [ulf_len]; exact info34) ?_
      refine wpList_store_mid rfl 73 _ _ rfl g 0 (ulf (wd V)).toArray rfl rfl (by simpa [ulf_len] using t3) (by simpa [ulf_len] using info34) (ulf_one _) ?_
      have rz := World.rangeAt_setCells_same wx g 0 (ulf (wd V)) (by simpa [ulf_len] using t3)
      have gz : Gb w (wx.setCells g 0 (ulf (wd V))) := gb_setCells (by omega) _ _ _ kx
      change wpList _ _ _ [] _ (wx.setCells g 0 (ulf (wd V)))
      generalize wx.setCells g 0 (ulf (wd V)) = wz at *
      have hld : (loadVar 73 ⟨g, 0, none⟩).run Tryd.prog wz = .ok (.agg (ulf (wd V)).toArray) wz := run_loadVar_mid wz g 0 73 (ulf (wd V)) _ rz Tryd.underlying73 rfl (by rw [ulf_len]; exact info34)
      clear rz r1 t3 kx
      go_wp2
      refine bodyPost_ret (v := .agg (ulf (wd V)).toArray) ?_ rfl ⟨rfl, gz⟩
      rw [results_cell rfl]
      show ((asAddr (.pointer (some ⟨g, 0, none⟩))).run Tryd.prog wz).andThen _ = _
      simp [asAddr, Result.andThen, hld]
    · have s0 : s = 0 := by omega
      have S0 := hide s0
      have ts : ¬ (0 : Int) < (s : Int) := by omega
      clear hs s0
      go_upto_region 11 with fail
      have u6 := u4.set (f' := fun j => if j = i then Lo else 0) i Lo (by omega) (if_pos rfl) (fun j _ hj => if_neg hj)
      have u7 := u5.far ng i (.int .u64 (Lo : Int))
      have kx : Gb w (w4.setCell ⟨U, i, none⟩ (.int .u64 (Lo : Int))) := k4.setCell (by rw [hg]; exact lg) _
      clear u4 u5 k4 c1 f1
      generalize w4.setCell ⟨U, i, none⟩ (.int .u64 (Lo : Int)) = wx at *
      have r1 := u6.range
      have hz : M * 2 ^ s / 18446744073709551616 = 0 := by rw [S0.out, Nat.pow_zero, Nat.mul_one]; exact Nat.div_eq_of_lt (by have := HM.out; omega)
      rw [ulf_congr (g := wd V) fun j _ => by rw [← HV.out, wd_shift M s i j HM.out hsl, ← HLO.out, hz, ite_self]] at r1
      have t3 := u7.there
      clear u6 u7
      refine wp_region_lit ?_
      refine wpList_load_mid rfl 73 _ rfl U 0 rfl (ulf (wd V)) _ r1 Tryd.underlying73 rfl (by rw [ulf_len]; exact info34) ?_
      refine wpList_store_mid rfl 73 _ _ rfl g 0 (ulf (wd V)).toArray rfl rfl (by simpa [ulf_len] using t3) (by simpa [ulf_len] using info34) (ulf_one _) ?_
      have rz := World.rangeAt_setCells_same wx g 0 (ulf (wd V)) (by simpa [ulf_len] using t3)
      have gz : Gb w (wx.setCells g 0 (ulf (wd V))) := gb_setCells (by omega) _ _ _ kx
      change wpList _ _ _ [] _ (wx.setCells g 0 (ulf (wd V)))
      generalize wx.setCells g 0 (ulf (wd V)) = wz at *
      have hld : (loadVar 73 ⟨g, 0, none⟩).run Tryd.prog wz = .ok (.agg (ulf (wd V)).toArray) wz := run_loadVar_mid wz g 0 73 (ulf (wd V)) _ rz Tryd.underlying73 rfl (by rw [ulf_len]; exact info34)
      clear rz r1 t3 kx
      go_wp2
      refine bodyPost_ret (v := .agg (ulf (wd V)).toArray) ?_ rfl ⟨rfl, gz⟩
      rw [results_cell rfl]
      show ((asAddr (.pointer (some ⟨g, 0, none⟩))).run Tryd.prog wz).andThen _ = _
      simp [asAddr, Result.andThen, hld]
  · have tx : ¬ (0 : Int) < (x : Int) := by omega
    go_upto_region 7 with fail
    rw [zeros34]
    have u4 := Un.new w2 (fun _ => 0) 73
    have u5 := u1.alloc (ulf fun _ => 0).toArray 73
    have k4 := k2.alloc (ulf fun _ => 0).toArray 73
    have ng : w.heap.size ≠ w2.heap.size := Nat.ne_of_lt (lt_block (a := ⟨w.heap.size, 0, none⟩) (u1 0 (by omega)).1)
    have lg : w.heap.size ≤ w2.heap.size := k2.size
    have hV : V = f * 2 ^ (64 * 0 + 0) := by
      rw [← HVV.out, val_low (by omega)]; omega
    have HV := hide hV
    have HF := hide hfl
    have tf : IntKind.u64.wrap (f : Int) = (f : Int) := wrap_u64 _ (by omega) (by omega)
    clear u1 k2 x0 p52 kx hV hx hf hx0 hxl hfl hn
    generalize w2.alloc (Obj.cells (ulf fun _ => 0).toArray 73) = w4 at *
    generalize w2.heap.size = U at *
    obtain ⟨g, hg⟩ : ∃ g, w.heap.size = g := ⟨_, rfl⟩
    rw [hg] at u5 ng lg
    rw [hg]
    have c1 := (u4 0 (by omega)).1
    have f1 := (u4 0 (by omega)).2
    go_upto_region 11 with fail
    have u6 := u4.set (f' := fun j => if j = 0 then f else 0) 0 f (by omega) (if_pos rfl) (fun j _ hj => if_neg hj)
    have u7 := u5.far ng 0 (.int .u64 (f : Int))
    have kx : Gb w (w4.setCell ⟨U, 0, none⟩ (.int .u64 (f : Int))) := k4.setCell (by rw [hg]; exact lg) _
    clear u4 u5 k4 c1 f1
    generalize w4.setCell ⟨U, 0, none⟩ (.int .u64 (f : Int)) = wx at *
    have r1 := u6.range
    have hz : f * 2 ^ 0 / 18446744073709551616 = 0 := by rw [Nat.pow_zero, Nat.mul_one]; exact Nat.div_eq_of_lt (by have := HF.out; omega)
    have hz' : f * 2 ^ 0 % 18446744073709551616 = f := by rw [Nat.pow_zero, Nat.mul_one]; exact Nat.mod_eq_of_lt (by have := HF.out; omega)
    rw [ulf_congr (g := wd V) fun j _ => by rw [HV.out, wd_shift f 0 0 j (by have := HF.out; omega) (by omega), hz, hz', ite_self]] at r1
    have t3 := u7.there
    clear u6 u7 hz hz'
    refine wp_region_lit ?_
    refine wpList_load_mid rfl 73 _ rfl U 0 rfl (ulf (wd V)) _ r1 Tryd.underlying73 rfl (by rw [ulf_len]; exact info34) ?_
    refine wpList_store_mid rfl 73 _ _ rfl g 0 (ulf (wd V)).toArray rfl rfl (by simpa [ulf_len] using t3) (by simpa [ulf_len] using info34) (ulf_one _) ?_
    have rz := World.rangeAt_setCells_same wx g 0 (ulf (wd V)) (by simpa [ulf_len] using t3)
    have gz : Gb w (wx.setCells g 0 (ulf (wd V))) := gb_setCells (by omega) _ _ _ kx
    change wpList _ _ _ [] _ (wx.setCells g 0 (ulf (wd V)))
    generalize wx.setCells g 0 (ulf (wd V)) = wz at *
    have hld : (loadVar 73 ⟨g, 0, none⟩).run Tryd.prog wz = .ok (.agg (ulf (wd V)).toArray) wz := run_loadVar_mid wz g 0 73 (ulf (wd V)) _ rz Tryd.underlying73 rfl (by rw [ulf_len]; exact info34)
    clear rz r1 t3 kx
    go_wp2
    refine bodyPost_ret (v := .agg (ulf (wd V)).toArray) ?_ rfl ⟨rfl, gz⟩
    rw [results_cell rfl]
    show ((asAddr (.pointer (some ⟨g, 0, none⟩))).run Tryd.prog wz).andThen _ = _
    simp [asAddr, Result.andThen, hld]
end Go.Proofs.YtnhekkahiphlgaaDoor.rl
