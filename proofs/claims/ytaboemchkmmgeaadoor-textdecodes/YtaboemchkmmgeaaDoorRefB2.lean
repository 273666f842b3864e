/- What begins, of the document's own, answers. -/
import Derived.Test.YtaboemchkmmgeaaDoorRefT2
namespace Go.Proofs.YtaboemchkmmgeaaDoor.utf
set_option linter.unusedVariables false
open Go.ChangeShapes Go.WideShapes Go.ChangeAt Go.RowKit
open mem rows

set_option maxHeartbeats 8000000 in
set_option maxRecDepth 100000 in
theorem begins2 (t : ByteArray) (w : World) (h1 : 1 ≤ t.size) (hs : t.size ≤ 4) (ha : 192 ≤ nb t 0) (hb : nb t 0 < 224) :
    Calls Tryd.prog 24 #[.string t] w (begAns t.size (nb t 0) (nb t 1) (nb t 2) (nb t 3) w) := by
  have hz0 : (0 : Int) < (t.size : Int) := by omega
  have hz4 : (t.size : Int) ≤ 4 := by omega
  obtain ⟨b0, hb0⟩ : ∃ x, nb t 0 = x := ⟨_, rfl⟩
  obtain ⟨b1, hb1⟩ : ∃ x, nb t 1 = x := ⟨_, rfl⟩
  obtain ⟨b2, hb2⟩ : ∃ x, nb t 2 = x := ⟨_, rfl⟩
  obtain ⟨b3, hb3⟩ : ∃ x, nb t 3 = x := ⟨_, rfl⟩
  have hs0 : (((t[0]'(by omega)).toNat : Nat) : Int) = (b0 : Int) := by rw [← nb_get t 0 (by omega), hb0]
  have hs1 : (h : 1 < t.size) → (((t[1]'h).toNat : Nat) : Int) = (b1 : Int) := fun h => by rw [← nb_get t 1 h, hb1]
  have hs2 : (h : 2 < t.size) → (((t[2]'h).toNat : Nat) : Int) = (b2 : Int) := fun h => by rw [← nb_get t 2 h, hb2]
  have hs3 : (h : 3 < t.size) → (((t[3]'h).toNat : Nat) : Int) = (b3 : Int) := fun h => by rw [← nb_get t 3 h, hb3]
  have hl1 : b1 < 256 := by rw [← hb1]; exact nb_lt t 1
  have hl2 : b2 < 256 := by rw [← hb2]; exact nb_lt t 2
  have hl3 : b3 < 256 := by rw [← hb3]; exact nb_lt t 3
  rw [hb0] at ha hb
  rw [hb0, hb1, hb2, hb3]
  have za : (192 : Int) ≤ (b0 : Int) := by omega
  have zb : (b0 : Int) < 224 := by omega
  go_enter Tryd.func24, Tryd.ntmps24
  go_wp2
  go_loopw [5, 6, 8] (fun l h kv wr => ∃ (lw hg : Int) (k : Nat), l = .int .i64 lw ∧ h = .int .i64 hg ∧ kv = .int .i64 (k : Int) ∧ 1 ≤ k ∧ k ≤ t.size ∧ -1 ≤ lw ∧ lw ≤ 10000000 ∧ -1 ≤ hg ∧ hg ≤ 10000000 ∧ Hid (seen2 b0 b1 k lw hg) ∧ Bl w wr) (fun _ _ kv _ => 4 - (intOf kv).toNat)
  case atStart => exact ⟨_, _, 1, rfl, rfl, rfl, Nat.le_refl _, h1, by omega, by omega, by omega, by omega, Or.inl ⟨rfl, by omega, by omega⟩, Bl.refl _⟩
  case round =>
    obtain ⟨lw, hg, k, rfl, rfl, rfl, hk1, hk, hq1, hq2, hq3, hq4, HS, hbl⟩ := hrel
    by_cases hkt : k = t.size
    · skip
      obtain rfl : k = t.size := by omega
      have hlt : ¬ ((t.size : Int) < (t.size : Int)) := by omega
      have hfour := HS.out
      by_cases cl : lw ≤ hg
      · rcases tri2 b0 b1 b2 b3 t.size lw hg hfour ha hb with c | c | c
        · exact absurd cl c
        · have HY : Hid (bgN t.size b0 b1 b2 b3 ∧ (t.size = 2 → ((stN t.size b0 b1 b2 b3).1 : Int) = lw)) := yes2 b0 b1 b2 b3 t.size lw hg hfour ha hb cl c
          have cS := fun w => isSign_at lw w
          rw [decide_eq_true c] at cS
          clear hfour HS c
          have hlen : lenN b0 = 2 := by unfold lenN; rw [if_neg (by omega), if_pos (by omega)]
          go_wp2
          go_loopw [5] (fun l wx => l = .int .i64 lw ∧ Bl w wx) (fun _ _ => 0)
          case atStart => exact ⟨rfl, hbl⟩
          case round =>
            obtain ⟨rfl, hbl⟩ := hrel
            by_cases hk : t.size = 2
            · have zk : (((t.size : Nat) : Int) == 2) = true := by rw [beq_iff_eq]; omega
              go_wp2_with (go_at_call 27; refine (cS _).mono ?_; rintro e w2 ⟨rfl, rfl⟩)
              go_ret2
              exact ⟨_, _, rfl, ⟨⟨fun _ => HY.out.1, fun _ => rfl⟩, fun _ => by rw [if_pos (by rw [hlen]; exact hk)]; exact (HY.out.2 hk).symm⟩, hbl⟩
            · have zk : (((t.size : Nat) : Int) == 2) = false := by rw [beq_eq_false_iff_ne]; omega
              go_wp2_with (go_at_call 27; refine (cS _).mono ?_; rintro e w2 ⟨rfl, rfl⟩)
              go_ret2
              exact ⟨_, _, rfl, ⟨⟨fun _ => HY.out.1, fun _ => rfl⟩, fun _ => by rw [if_neg (by rw [hlen]; exact hk)]⟩, hbl⟩
        · have HN : Hid (¬ bgN t.size b0 b1 b2 b3) := no2 b0 b1 b2 b3 t.size lw hg hfour ha hb (Or.inr c)
          clear hfour HS
          go_wp2
          go_loopw [5] (fun l wx => ∃ x : Int, l = .int .i64 x ∧ 55296 ≤ x ∧ x ≤ 57344 ∧ Bl w wx) (fun l _ => (57344 - intOf l).toNat)
          case atStart => exact ⟨lw, rfl, by omega, by omega, hbl⟩
          case round =>
            obtain ⟨x, rfl, hx1, hx2, hbl⟩ := hrel
            by_cases cx : x ≤ hg
            · have cS := fun w => isSign_at x w
              rw [decide_eq_false (show ¬ sign x by unfold sign; omega)] at cS
              go_wp2_with (go_at_call 27; refine (cS _).mono ?_; rintro e w2 ⟨rfl, rfl⟩)
              go_roundw
              case rel => exact ⟨x + 1, rfl, by omega, by omega, hbl⟩
              case measure => simp [intOf]; omega
            · go_wp2
              go_ret2
              exact ⟨_, _, rfl, told_no _ _ _ _ _ HN.out _, hbl⟩
      · have HN : Hid (¬ bgN t.size b0 b1 b2 b3) := no2 b0 b1 b2 b3 t.size lw hg hfour ha hb (Or.inl cl)
        clear hfour HS
        go_wp2
        go_loopw [5] (fun l wx => l = .int .i64 lw ∧ Bl w wx) (fun _ _ => 0)
        case atStart => exact ⟨rfl, hbl⟩
        case round =>
          obtain ⟨rfl, hbl⟩ := hrel
          go_wp2
          go_ret2
          exact ⟨_, _, rfl, told_no _ _ _ _ _ HN.out _, hbl⟩
    · rcases (show k = 1 ∨ k = 2 by have := HS.out; unfold seen2 at this; omega) with rfl | rfl
      · skip
        have zk : (1 : Int) < (t.size : Int) := by omega
        have hbk := hs1 (by omega)
        have hll := lohi b0
        have cW := fun w => within_at (b1 : Int) 128 191 w
        by_cases hc : (128 : Int) ≤ (b1 : Int) ∧ (b1 : Int) ≤ 191
        · rw [decide_eq_true hc] at cW
          go_wp2_with (first | (go_at_call 32; refine (cW _).mono ?_; rintro e w2 ⟨rfl, rfl⟩) | (go_at_call 43; refine (pow2_0 _).mono ?_; rintro e w3 ⟨rfl, rfl⟩))
          go_loopw [10, 11] (fun bv jv wx => ∃ (x : Int) (j : Nat), bv = .int .i64 x ∧ jv = .int .i64 (j : Int) ∧ Hid ((j = 0 ∧ x = 0) ∨ (j = 1 ∧ x = ((b0 : Int) - 192)) ∨ (j = 2 ∧ x = (((b0 : Int) - 192) * 64 + ((b1 : Int) - 128)))) ∧ Bl w wx) (fun _ jv _ => 5 - (intOf jv).toNat)
          case atStart => exact ⟨0, 0, rfl, rfl, Or.inl ⟨rfl, rfl⟩, hbl⟩
          case round =>
            obtain ⟨x, j, rfl, rfl, HJ, hbl⟩ := hrel
            rcases HJ.out with ⟨rfl, rfl⟩ | ⟨rfl, rfl⟩ | ⟨rfl, rfl⟩
            · clear HJ
              go_wp2
              go_roundw
              case rel => exact ⟨_, 1, rfl, rfl, Or.inr (Or.inl ⟨rfl, by omega⟩), by first | exact hbl | exact hbl.alloc _⟩
              case measure => simp [intOf]
            · have hj := hs1 (by omega)
              have zj : (1 : Int) < (t.size : Int) := by omega
              clear HJ
              go_wp2
              go_roundw
              case rel => exact ⟨_, 2, rfl, rfl, Or.inr (Or.inr (⟨rfl, by omega⟩)), by first | exact hbl | exact hbl.alloc _⟩
              case measure => simp [intOf]
            · clear HJ
              go_wp2
              go_roundw
              case rel =>
                refine ⟨_, _, 2, rfl, rfl, rfl, by omega, by omega, by omega, by omega, by omega, by omega, ?_, hbl⟩
                have := HS.out
                unfold seen2 at this
                unfold seen2 Hid
                omega
              case measure => simp [intOf]
        · have HN : Hid (¬ bgN t.size b0 b1 b2 b3) := by unfold bgN Hid; omega
          rw [decide_eq_false hc] at cW
          clear HS hll hc
          go_wp2_with (go_at_call 32; refine (cW _).mono ?_; rintro e w2 ⟨rfl, rfl⟩)
          go_ret2
          exact ⟨_, _, rfl, told_no _ _ _ _ _ HN.out _, hbl⟩
      · skip
        have zk : (2 : Int) < (t.size : Int) := by omega
        have hbk := hs2 (by omega)
        have hll := lohi b0
        have cW := fun w => within_at (b2 : Int) 128 191 w
        by_cases hc : (128 : Int) ≤ (b2 : Int) ∧ (b2 : Int) ≤ 191
        · rw [decide_eq_true hc] at cW
          have HN : Hid (¬ bgN t.size b0 b1 b2 b3) := by unfold bgN Hid; omega
          clear HS hll hc
          go_wp2_with (go_at_call 32; refine (cW _).mono ?_; rintro e w2 ⟨rfl, rfl⟩)
          go_ret2
          exact ⟨_, _, rfl, told_no _ _ _ _ _ HN.out _, hbl⟩
        · have HN : Hid (¬ bgN t.size b0 b1 b2 b3) := by unfold bgN Hid; omega
          rw [decide_eq_false hc] at cW
          clear HS hll hc
          go_wp2_with (go_at_call 32; refine (cW _).mono ?_; rintro e w2 ⟨rfl, rfl⟩)
          go_ret2
          exact ⟨_, _, rfl, told_no _ _ _ _ _ HN.out _, hbl⟩
end Go.Proofs.YtaboemchkmmgeaaDoor.utf
