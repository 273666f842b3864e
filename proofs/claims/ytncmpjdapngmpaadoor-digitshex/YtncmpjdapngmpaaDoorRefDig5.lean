/- What the document's own Hex and Unhex answer. -/
import Derived.Test.YtncmpjdapngmpaaDoorRefDig2
import Derived.Test.YtncmpjdapngmpaaDoorDigs5
namespace Go.Proofs.YtncmpjdapngmpaaDoor.digs
open Go.ChangeShapes Go.WideShapes Go.ChangeAt Go.RowKit
open mem dig

theorem hexL_push (s : ByteArray) (k : Nat) : strOfNums (hexL s k) ++ strOfNums (pr 16 (nb s k) 2) = strOfNums (hexL s (k + 1)) := by
  rw [nums_append]
  have h := nb_lt s k
  have e1 : nb s k / 16 ^ 1 % 16 = nb s k / 16 := by omega
  have e2 : nb s k / 16 ^ 0 % 16 = nb s k % 16 := by simp
  show strOfNums (hexL s k ++ [ch (nb s k / 16 ^ 1 % 16), ch (nb s k / 16 ^ 0 % 16)]) = _
  rw [e1, e2]; rfl
theorem refHex_at (s : ByteArray) (w : World) (hs : s.size ≤ 1000) : Calls Tryd.prog 22 #[.string s] w fun e w' => e = .returned (.string (strOfNums (hexL s s.size))) ∧ w' = w := by
  go_enter Tryd.func22, Tryd.ntmps22
  go_wp2
  go_loop [3, 4] (fun o i => ∃ k : Nat, k ≤ s.size ∧ i = .int .i64 (k : Int) ∧ o = .string (strOfNums (hexL s k))) (fun _ i => s.size - (intOf i).toNat)
  case atStart => exact ⟨0, Nat.zero_le _, rfl, rfl⟩
  case round =>
    obtain ⟨k, hk, rfl, rfl⟩ := hrel
    by_cases hlt : k < s.size
    · obtain ⟨C, hC⟩ : ∃ C, C = nb s k := ⟨_, rfl⟩
      have hCl : C < 256 := by rw [hC]; exact nb_lt s k
      have hgk : (((s[k]'hlt).toNat : Nat) : Int) = (C : Int) := by rw [← sb_get s k hlt, hC]; exact nb_sb s k
      have hz := strOfNums_size (hexL s k)
      have hz2 := strOfNums_size (pr 16 C 2)
      rw [hexL_len] at hz
      rw [pr_len] at hz2
      have cP : ∀ w, Calls Tryd.prog 9 #[.int .u64 (C : Int), .int .i64 16, .int .i64 2] w fun e w' => e = .returned (.tuple #[.string (strOfNums (pr 16 C 2)), .int .i64 0]) ∧ w' = w :=
        fun w => refPrint_at C 16 2 2 w (by omega) (by omega) (by omega) (by omega) ⟨by omega, by omega, by omega, Or.inr (Or.inl rfl)⟩
      have HP : Hid (strOfNums (hexL s k) ++ strOfNums (pr 16 C 2) = strOfNums (hexL s (k + 1))) := by rw [hC]; exact hexL_push s k
      clear hC
      go_wp2_with (go_at_call 9; refine (cP _).mono ?_; rintro e w2 ⟨rfl, rfl⟩)
      go_round
      case rel => exact ⟨k + 1, by omega, by go_num, by rw [← HP.out]⟩
      case measure => simp [intOf]; omega
    · obtain rfl : k = s.size := by omega
      go_wp2
      go_ret
      exact ⟨rfl, rfl⟩
theorem Row.new (w : World) (e : TypeId) (x : Int) : Row (w.alloc (.cells #[.int .u8 x] e)) e w.heap.size [x] := Row.of_cells w e _ [x] rfl
theorem char_at (n : Nat) (w : World) (h : n < 256) : Calls Tryd.prog 37 #[.int .u64 (n : Int)] w fun e w' => e = .returned (.string (strOfNums [(n : Int)])) ∧ Gb w w' := by
  have hcv := (Row.new w 5 (n : Int)).text (P := Tryd.prog) Tryd.underlying59 Tryd.underlying5 Tryd.underlying9 1 rfl
  have hm : (n : Int) % 256 = (n : Int) := by omega
  go_enter Tryd.func37, Tryd.ntmps37
  go_wp2
  go_ret
  exact ⟨rfl, (Gb.refl _).alloc _ _⟩
theorem good_at (w : World) : Calls Tryd.prog 38 #[] w fun e w' => e = .returned (.agg #[.int .i64 0, .int .i64 (-1)]) ∧ Gb w w' := by
  go_enter Tryd.func38, Tryd.ntmps38
  go_wp2
  refine bodyPost_ret (v := .agg #[.int .i64 0, .int .i64 (-1)]) (by simp [results, Tryd.f38, go_sem]) rfl ⟨rfl, ?_⟩
  exact Gb.alloc (Gb.refl w) _ _
theorem un_blank {s : ByteArray} {i : Nat} {q : List Int} (hu : un s i = some (q, -1)) (hb : sb s i = 32) : un s (i + 1) = some (q, -1) := by
  rw [un, hu, unStep, if_pos ⟨hb, by omega⟩]
theorem un_one {s : ByteArray} {i : Nat} {q : List Int} (hu : un s i = some (q, -1)) (hd : 0 ≤ dv (sb s i)) : un s (i + 1) = some (q, dv (sb s i)) := by
  have ne : sb s i ≠ 32 := fun e => by rw [e] at hd; exact absurd hd (by decide)
  rw [un, hu, unStep, if_neg (fun h => ne h.1), if_neg (by omega), if_pos (by omega)]
theorem un_two {s : ByteArray} {i : Nat} {q : List Int} {d : Int} (hu : un s i = some (q, d)) (h0 : 0 ≤ d) (hd : 0 ≤ dv (sb s i)) : un s (i + 1) = some (q ++ [d * 16 + dv (sb s i)], -1) := by
  rw [un, hu, unStep, if_neg (by omega), if_neg (by omega), if_neg (by omega)]
theorem at_gb {w w' : World} (g : Gb w w') {a : Addr} {v : Value} (h : w.cell? a = some v) : w'.cell? a = some v := by
  have hl : a.block < w.heap.size := by
    rcases Nat.lt_or_ge a.block w.heap.size with h1 | h1
    · exact h1
    · simp [World.cell?, Array.getElem?_eq_none h1] at h
  rw [g.b.cell (p := a) hl]; exact h
theorem fz_gb {w w' : World} (g : Gb w w') {a : Addr} (h : w.frozen? a = false) : w'.frozen? a = false := by rw [g.g.2.1]; exact h
set_option maxRecDepth 4000 in
set_option maxHeartbeats 2000000 in
theorem refUnhex_ok (s : ByteArray) (o : List Int) (w : World) (hs : s.size ≤ 1000) (h : un s s.size = some (o, -1)) : Calls Tryd.prog 18 #[.string s] w fun e w' => e = .returned (.tuple #[.string (strOfNums o), .agg #[.int .i64 0, .int .i64 (-1)]]) ∧ Gb w w' := by
  have HE : Hid (un s s.size = some (o, -1)) := h
  clear h
  go_enter Tryd.func18, Tryd.ntmps18
  go_wp2
  go_loopw [4, 5] (fun t i wr => ∃ (k : Nat) (q : List Int), k ≤ s.size ∧ i = .int .i64 (k : Int) ∧ t = .string (strOfNums q) ∧ Hid (un s k = some (q, -1)) ∧ Hid (Gb (w.alloc (.cells #[.int .i64 0, .int .i64 0] 43)) wr)) (fun _ i _ => s.size - (intOf i).toNat)
  case atStart => exact ⟨0, [], Nat.zero_le _, rfl, rfl, rfl, Gb.refl _⟩
  case round =>
    obtain ⟨k, q, hk, rfl, rfl, HU, HG⟩ := hrel
    have ub := un_bd s k q (-1) HU.out
    rw [if_neg (by omega)] at ub
    have hq0 : q.length ≤ 1000 := by omega
    have hcat : ¬ 9223372036854775807 < q.length + 1 := by omega
    clear ub
    by_cases hlt : k < s.size
    · have hgk : (((s[k]'hlt).toNat : Nat) : Int) = sb s k := (sb_get s k hlt).symm
      have hb := sb_bd s k
      by_cases c1 : sb s k = 32
      · have a1 : (sb s k == 32) = true := by simpa using c1
        have HN := un_blank HU.out c1
        have HN' : Hid (un s (k + 1) = some (q, -1)) := HN
        clear HN c1
        go_wp2
        go_roundw
        case rel => exact ⟨k + 1, q, by omega, by go_num, rfl, HN', HG⟩
        case measure => simp [intOf]; omega
      · have a1 : (sb s k == 32) = false := by simpa using c1
        have hd0 : 0 ≤ dv (sb s k) := by
          rcases Int.lt_or_le (dv (sb s k)) 0 with hh | hh
          · have := un_stuck s k s.size ⟨q, -1, HU.out, Or.inl ⟨hlt, fun h => c1 h.1, hh⟩⟩ hlt hlt
            rw [HE.out] at this; cases this
          · exact hh
        have HO := un_one HU.out hd0
        have hlt2 : k + 1 < s.size := by
          rcases Nat.lt_or_ge (k + 1) s.size with hh | hh
          · exact hh
          · have e : k + 1 = s.size := by omega
            rw [e, HE.out] at HO
            have : (-1 : Int) = dv (sb s k) := by simpa using (Prod.mk.inj (Option.some.inj HO)).2
            omega
        have hgk2 : (((s[k + 1]'hlt2).toNat : Nat) : Int) = sb s (k + 1) := (sb_get s (k + 1) hlt2).symm
        have hb2 := sb_bd s (k + 1)
        have hd1 : 0 ≤ dv (sb s (k + 1)) := by
          rcases Int.lt_or_le (dv (sb s (k + 1))) 0 with hh | hh
          · have := un_stuck s (k + 1) s.size ⟨q, _, HO, Or.inl ⟨hlt2, fun h => by omega, hh⟩⟩ hlt2 hlt2
            rw [HE.out] at this; cases this
          · exact hh
        have HT := un_two HO hd0 hd1
        have e0 := dv_bd (sb s k)
        have e1 := dv_bd (sb s (k + 1))
        obtain ⟨D, hD⟩ := Int.eq_ofNat_of_zero_le hd0
        obtain ⟨E, hE⟩ := Int.eq_ofNat_of_zero_le hd1
        obtain ⟨X, hX⟩ : ∃ X, X = D * 16 + E := ⟨_, rfl⟩
        have HN' : Hid (un s (k + 2) = some (q ++ [(X : Int)], -1)) := by show _ = _; rw [HT, hD, hE, hX]; simp
        have HA : Hid (strOfNums q ++ strOfNums [(X : Int)] = strOfNums (q ++ [(X : Int)])) := nums_append _ _
        have x1 : IntKind.i64.wrap ((D : Int) * 16) = (D : Int) * 16 := by rw [IntKind.wrap_i64]; omega
        have x2 : IntKind.i64.wrap ((D : Int) * 16 + (E : Int)) = (X : Int) := by rw [IntKind.wrap_i64]; omega
        have x3 : IntKind.u64.wrap (X : Int) = (X : Int) := by rw [IntKind.wrap_u64]; omega
        have x4 : IntKind.i64.wrap ((k : Int) + 1) = (k : Int) + 1 := by rw [IntKind.wrap_i64]; omega
        have hXl : X < 256 := by omega
        have z1 := strOfNums_size q
        have z2 : (strOfNums [(X : Int)]).size = 1 := rfl
        clear HO HT c1 hX
        go_wp2
        refine wp_loop_rounds 3 ?_
        rw [rounds_succ]
        go_wp2_with (go_at_call 13; refine (refDigit_at _ _ (by omega) (by omega)).mono ?_; rintro e v1 ⟨rfl, g1⟩)
        rw [rounds_succ]
        go_wp2_with (go_at_call 13; refine (refDigit_at _ _ (by omega) (by omega)).mono ?_; rintro e v2 ⟨rfl, g2⟩)
        rw [rounds_succ]
        go_wp2
        go_region_held3 (fun _ => True) (trivial) (first | (go_at_call_of 13 (Value.int IntKind.u8 (sb s k)); refine (refDigit_at _ _ (by omega) (by omega)).mono ?_; rintro e v3 ⟨rfl, g3⟩) | (go_at_call 13; refine (refDigit_at _ _ (by omega) (by omega)).mono ?_; rintro e v4 ⟨rfl, g4⟩) | (go_at_call 37; refine (char_at X _ hXl).mono ?_; rintro e v5 ⟨rfl, g5⟩))
        all_goals go_wp2
        all_goals refine ⟨⟨k + 2, q ++ [(X : Int)], by omega, by go_num, by rw [← HA.out], HN', (HG.out.trans (g1.trans (g2.trans ((Gb.refl v2).drew.trans (g3.trans (g4.trans g5))))))⟩, ?_⟩
        all_goals simp [intOf]
        all_goals omega
    · obtain rfl : k = s.size := by omega
      obtain rfl : q = o := by
        have := HU.out.symm.trans HE.out
        simpa using this
      go_wp2_with (go_at_call 38; refine (good_at _).mono ?_; rintro e v1 ⟨rfl, g1⟩; have c0 := at_gb g1 (at_gb HG.out (a := ⟨w.heap.size, 0, none⟩) (v := .int .i64 0) (by simp)); have c1 := at_gb g1 (at_gb HG.out (a := ⟨w.heap.size, 1, none⟩) (v := .int .i64 0) (by simp)); have f0 := fz_gb g1 (fz_gb HG.out (a := ⟨w.heap.size, 0, none⟩) (by simp)); have f1 := fz_gb g1 (fz_gb HG.out (a := ⟨w.heap.size, 1, none⟩) (by simp)))
      refine bodyPost_ret (v := .tuple #[.string (strOfNums q), .agg #[.int .i64 0, .int .i64 (-1)]]) (by simp [results, Tryd.f18, go_sem, c0, c1]) rfl ⟨rfl, ?_⟩
      exact Gb.setCell (a := ⟨w.heap.size, 1, none⟩) (Gb.setCell (a := ⟨w.heap.size, 0, none⟩) (((Gb.refl w).alloc _ _).trans (HG.out.trans g1)) (Nat.le_refl _) _) (Nat.le_refl _) _
set_option maxRecDepth 4000 in
set_option maxHeartbeats 2000000 in
theorem refUnhex_bad (s : ByteArray) (p : Nat) (w : World) (hs : s.size ≤ 1000) (hp : p ≤ s.size) (h : BadAt s p) : Calls Tryd.prog 18 #[.string s] w fun e w' => e = .returned (.tuple #[.string ⟨#[]⟩, .agg #[.int .i64 3, .int .i64 p]]) ∧ Gb w w' := by
  have HE : Hid (BadAt s p) := h
  clear h
  go_enter Tryd.func18, Tryd.ntmps18
  go_wp2
  go_loopw [4, 5] (fun t i wr => ∃ (k : Nat) (q : List Int), k ≤ p ∧ i = .int .i64 (k : Int) ∧ t = .string (strOfNums q) ∧ Hid (un s k = some (q, -1)) ∧ Hid (Gb (w.alloc (.cells #[.int .i64 0, .int .i64 0] 43)) wr)) (fun _ i _ => s.size - (intOf i).toNat)
  case atStart => exact ⟨0, [], Nat.zero_le _, rfl, rfl, rfl, Gb.refl _⟩
  case round =>
    obtain ⟨k, q, hk, rfl, rfl, HU, HG⟩ := hrel
    have ub := un_bd s k q (-1) HU.out
    rw [if_neg (by omega)] at ub
    have hq0 : q.length ≤ 1000 := by omega
    have hcat : ¬ 9223372036854775807 < q.length + 1 := by omega
    clear ub
    have past : ∀ j q' h', k ≤ j → j < s.size → (∀ i, i < j → k ≤ i → i ≠ p) → un s (j + 1) = some (q', h') → j ≠ p := fun j q' h' _ hj _ hu e => by
      have := un_stuck s j (j + 1) (by rw [e]; exact HE.out) hj (by omega)
      rw [this] at hu; cases hu
    have HPA : Hid (∀ j q' h', k ≤ j → j < s.size → (∀ i, i < j → k ≤ i → i ≠ p) → un s (j + 1) = some (q', h') → j ≠ p) := past
    clear past
    by_cases hlt : k < s.size
    · have hgk : (((s[k]'hlt).toNat : Nat) : Int) = sb s k := (sb_get s k hlt).symm
      have hb := sb_bd s k
      by_cases c1 : sb s k = 32
      · have a1 : (sb s k == 32) = true := by simpa using c1
        have HN := un_blank HU.out c1
        have HN' : Hid (un s (k + 1) = some (q, -1)) := HN
        clear HN c1
        go_wp2
        go_roundw
        case rel => exact ⟨k + 1, q, by have := HPA.out k q _ (Nat.le_refl _) hlt (fun i hi hi' => by omega) HN'.out; omega, by go_num, rfl, HN', HG⟩
        case measure => simp [intOf]; omega
      · have a1 : (sb s k == 32) = false := by simpa using c1
        by_cases hbad : dv (sb s k) < 0
        · have hkp : k = p := by
            rcases Nat.lt_or_ge k p with hh | hh
            · obtain ⟨o', h', hu', _⟩ := HE.out
              rw [un_stuck s k p ⟨q, -1, HU.out, Or.inl ⟨hlt, fun h => c1 h.1, hbad⟩⟩ hlt hh] at hu'
              cases hu'
            · omega
          subst hkp
          clear c1
          go_wp2
          refine wp_loop_rounds 3 ?_
          rw [rounds_succ]
          go_wp2_with (go_at_call 13; refine (refDigit_at _ _ (by omega) (by omega)).mono ?_; rintro e v1 ⟨rfl, g1⟩; have c0 := at_gb (HG.out.trans g1) (a := ⟨w.heap.size, 0, none⟩) (v := .int .i64 0) (by simp); have c1 := at_gb (HG.out.trans g1) (a := ⟨w.heap.size, 1, none⟩) (v := .int .i64 0) (by simp); have f0 := fz_gb (HG.out.trans g1) (a := ⟨w.heap.size, 0, none⟩) (by simp); have f1 := fz_gb (HG.out.trans g1) (a := ⟨w.heap.size, 1, none⟩) (by simp))
          refine bodyPost_ret (v := .tuple #[.string ⟨#[]⟩, .agg #[.int .i64 3, .int .i64 k]]) (by simp [results, Tryd.f18, go_sem, c0, c1]) rfl ⟨rfl, ?_⟩
          exact Gb.setCell (a := ⟨w.heap.size, 1, none⟩) (Gb.setCell (a := ⟨w.heap.size, 0, none⟩) (((Gb.refl w).alloc _ _).trans (HG.out.trans g1)) (Nat.le_refl _) _) (Nat.le_refl _) _
        have hd0 : 0 ≤ dv (sb s k) := by omega
        clear hbad
        have HO := un_one HU.out hd0
        have hkp1 : k + 1 ≤ p := by have := HPA.out k _ _ (Nat.le_refl _) hlt (fun i hi hi' => by omega) HO; omega
        by_cases hlt2' : s.size ≤ k + 1
        · have e1 : k + 1 = s.size := by omega
          have e2 : p = k + 1 := by omega
          have e3 : (s.size : Int) ≤ (k : Int) + 1 := by omega
          have x4 : IntKind.i64.wrap ((k : Int) + 1) = (k : Int) + 1 := by rw [IntKind.wrap_i64]; omega
          clear c1 HO e1
          go_wp2
          refine wp_loop_rounds 3 ?_
          rw [rounds_succ]
          go_wp2_with (go_at_call 13; refine (refDigit_at _ _ (by omega) (by omega)).mono ?_; rintro e v1 ⟨rfl, g1⟩; have c0 := at_gb (HG.out.trans g1) (a := ⟨w.heap.size, 0, none⟩) (v := .int .i64 0) (by simp); have c1 := at_gb (HG.out.trans g1) (a := ⟨w.heap.size, 1, none⟩) (v := .int .i64 0) (by simp); have f0 := fz_gb (HG.out.trans g1) (a := ⟨w.heap.size, 0, none⟩) (by simp); have f1 := fz_gb (HG.out.trans g1) (a := ⟨w.heap.size, 1, none⟩) (by simp))
          rw [rounds_succ]
          go_wp2
          subst e2
          refine bodyPost_ret (v := .tuple #[.string ⟨#[]⟩, .agg #[.int .i64 3, .int .i64 (k + 1 : Nat)]]) (by simp [results, Tryd.f18, go_sem, c0, c1]) rfl ⟨rfl, ?_⟩
          exact Gb.setCell (a := ⟨w.heap.size, 1, none⟩) (Gb.setCell (a := ⟨w.heap.size, 0, none⟩) (((Gb.refl w).alloc _ _).trans (HG.out.trans g1)) (Nat.le_refl _) _) (Nat.le_refl _) _
        have hlt2 : k + 1 < s.size := by omega
        clear hlt2'
        have hgk2 : (((s[k + 1]'hlt2).toNat : Nat) : Int) = sb s (k + 1) := (sb_get s (k + 1) hlt2).symm
        have hb2 := sb_bd s (k + 1)
        by_cases hbad : dv (sb s (k + 1)) < 0
        · have hkp : k + 1 = p := by
            rcases Nat.lt_or_ge (k + 1) p with hh | hh
            · obtain ⟨o', h', hu', _⟩ := HE.out
              rw [un_stuck s (k + 1) p ⟨q, _, HO, Or.inl ⟨hlt2, fun h => by omega, hbad⟩⟩ hlt2 hh] at hu'
              cases hu'
            · omega
          have x4 : IntKind.i64.wrap ((k : Int) + 1) = (k : Int) + 1 := by rw [IntKind.wrap_i64]; omega
          have HKP : Hid (k + 1 = p) := hkp
          clear c1 HO hkp
          go_wp2
          refine wp_loop_rounds 3 ?_
          rw [rounds_succ]
          go_wp2_with (go_at_call 13; refine (refDigit_at _ _ (by omega) (by omega)).mono ?_; rintro e v1 ⟨rfl, g1⟩)
          rw [rounds_succ]
          go_wp2_with (go_at_call 13; refine (refDigit_at _ _ (by omega) (by omega)).mono ?_; rintro e v2 ⟨rfl, g2⟩; have c0 := at_gb (HG.out.trans (g1.trans g2)) (a := ⟨w.heap.size, 0, none⟩) (v := .int .i64 0) (by simp); have c1 := at_gb (HG.out.trans (g1.trans g2)) (a := ⟨w.heap.size, 1, none⟩) (v := .int .i64 0) (by simp); have f0 := fz_gb (HG.out.trans (g1.trans g2)) (a := ⟨w.heap.size, 0, none⟩) (by simp); have f1 := fz_gb (HG.out.trans (g1.trans g2)) (a := ⟨w.heap.size, 1, none⟩) (by simp))
          have e2 := HKP.out
          clear HKP
          subst e2
          refine bodyPost_ret (v := .tuple #[.string ⟨#[]⟩, .agg #[.int .i64 3, .int .i64 (k + 1 : Nat)]]) (by simp [results, Tryd.f18, go_sem, c0, c1]) rfl ⟨rfl, ?_⟩
          exact Gb.setCell (a := ⟨w.heap.size, 1, none⟩) (Gb.setCell (a := ⟨w.heap.size, 0, none⟩) (((Gb.refl w).alloc _ _).trans (HG.out.trans (g1.trans g2))) (Nat.le_refl _) _) (Nat.le_refl _) _
        have hd1 : 0 ≤ dv (sb s (k + 1)) := by omega
        clear hbad
        have HT := un_two HO hd0 hd1
        have hkp2 : k + 2 ≤ p := by have := HPA.out (k + 1) _ _ (by omega) hlt2 (fun i hi hi' => by omega) HT; omega
        have e0 := dv_bd (sb s k)
        have e1 := dv_bd (sb s (k + 1))
        obtain ⟨D, hD⟩ := Int.eq_ofNat_of_zero_le hd0
        obtain ⟨E, hE⟩ := Int.eq_ofNat_of_zero_le hd1
        obtain ⟨X, hX⟩ : ∃ X, X = D * 16 + E := ⟨_, rfl⟩
        have HN' : Hid (un s (k + 2) = some (q ++ [(X : Int)], -1)) := by show _ = _; rw [HT, hD, hE, hX]; simp
        have HA : Hid (strOfNums q ++ strOfNums [(X : Int)] = strOfNums (q ++ [(X : Int)])) := nums_append _ _
        have x1 : IntKind.i64.wrap ((D : Int) * 16) = (D : Int) * 16 := by rw [IntKind.wrap_i64]; omega
        have x2 : IntKind.i64.wrap ((D : Int) * 16 + (E : Int)) = (X : Int) := by rw [IntKind.wrap_i64]; omega
        have x3 : IntKind.u64.wrap (X : Int) = (X : Int) := by rw [IntKind.wrap_u64]; omega
        have x4 : IntKind.i64.wrap ((k : Int) + 1) = (k : Int) + 1 := by rw [IntKind.wrap_i64]; omega
        have hXl : X < 256 := by omega
        have z1 := strOfNums_size q
        have z2 : (strOfNums [(X : Int)]).size = 1 := rfl
        clear HO HT c1 hX
        go_wp2
        refine wp_loop_rounds 3 ?_
        rw [rounds_succ]
        go_wp2_with (go_at_call 13; refine (refDigit_at _ _ (by omega) (by omega)).mono ?_; rintro e v1 ⟨rfl, g1⟩)
        rw [rounds_succ]
        go_wp2_with (go_at_call 13; refine (refDigit_at _ _ (by omega) (by omega)).mono ?_; rintro e v2 ⟨rfl, g2⟩)
        rw [rounds_succ]
        go_wp2
        go_region_held3 (fun _ => True) (trivial) (first | (go_at_call_of 13 (Value.int IntKind.u8 (sb s k)); refine (refDigit_at _ _ (by omega) (by omega)).mono ?_; rintro e v3 ⟨rfl, g3⟩) | (go_at_call 13; refine (refDigit_at _ _ (by omega) (by omega)).mono ?_; rintro e v4 ⟨rfl, g4⟩) | (go_at_call 37; refine (char_at X _ hXl).mono ?_; rintro e v5 ⟨rfl, g5⟩))
        all_goals go_wp2
        all_goals refine ⟨⟨k + 2, q ++ [(X : Int)], by omega, by go_num, by rw [← HA.out], HN', (HG.out.trans (g1.trans (g2.trans ((Gb.refl v2).drew.trans (g3.trans (g4.trans g5))))))⟩, ?_⟩
        all_goals simp [intOf]
        all_goals omega
    · exfalso
      have e1 : k = s.size := by omega
      have e2 : p = k := by omega
      obtain ⟨o', h', hu', hc'⟩ := HE.out
      rw [e2, HU.out] at hu'
      have e3 : (-1 : Int) = h' := (Prod.mk.inj (Option.some.inj hu')).2
      rcases hc' with ⟨h1, _⟩ | ⟨_, h1⟩ <;> omega
end Go.Proofs.YtncmpjdapngmpaaDoor.digs
