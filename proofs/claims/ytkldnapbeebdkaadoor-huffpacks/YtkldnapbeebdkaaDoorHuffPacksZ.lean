/- A text by signs (Pack), the text that any bytes are (Unpack) and how often each byte stands (Count) are the document's own, errors too, at every two texts: HuffPacks answers true (of texts of 201 to 4000 or more than 4009 bytes, and of more than 500 packed bytes, the statement asks nothing). errors.errorType is taken as the program's text lays it. -/
import Derived.Test.YtkldnapbeebdkaaDoorRows
import Derived.WalkKit
import Derived.ProofKit
import Derived.OpenShut
import Derived.SizedLaws
import Derived.Test.YtkldnapbeebdkaaDoorZ2
import Derived.Test.YtkldnapbeebdkaaDoorTie
import Derived.Test.YtkldnapbeebdkaaDoorCards
import Derived.SevenTiedAt
import Derived.Test.YtkldnapbeebdkaaDoorZ33
import Derived.ShutString
namespace Go.Proofs.YtkldnapbeebdkaaDoor.huffPacks
open Go.ChangeShapes Go.WideShapes Go.ChangeAt Go.RowKit
open Go.ChangeMaps (open_string shut_string)
set_option linter.unusedVariables false      -- a walk need not use every 'w<i>' (that an integer argument fits its kind)

theorem own : ownKnob Tryd.prog.godebug = none := by kernel_rfl

open mem rows errs hg hh hp
theorem laid_bl {w w' : World} (h : Laid w) (g : Bl w w') : Laid w' := by
  have hp := h.pos
  unfold Laid at h ⊢
  unfold World.cell? at h ⊢
  rw [Below.block g _ hp]
  exact h
/-- A text by signs, of both. -/
theorem pack_ok (s : ByteArray) (h63 : s.size ≤ 9223372036854775807) : ∃ (e : Int) (ev : Value) (T : ByteArray),
    (∀ w, Calls Tryd.prog 12 #[.string s] w fun y w' => y = .returned (.tuple #[.string T, .int .i64 e]) ∧ Bl w w') ∧
    (∀ w, Calls Tryd.prog 13 #[.string s] w fun y w' => y = .returned (.tuple #[.string T, ev]) ∧ Bl w w') ∧
    (∀ w', Laid w' → Calls Tryd.prog 9 #[ev, .int .i64 e] w' fun y w'' => y = .returned (.bool true) ∧ Bl w' w'') := by
  by_cases h : s.size ≤ 4000
  · exact ⟨0, .nilIface, packT s, fun w => refPack_at s w h, fun w => Pack_at s w h, fun w' _ => (bare_nil 0 w').mono (by rintro x w'' ⟨rfl, rfl⟩; exact ⟨rfl, Bl.refl _⟩)⟩
  · exact ⟨4, .iface 23 (.int .i64 4), ⟨#[]⟩, fun w => (refPack_big s w (by omega) h63).mono (by rintro x w'' ⟨rfl, rfl⟩; exact ⟨rfl, Bl.refl _⟩), fun w => (Pack_big s w (by omega) h63).mono (by rintro x w'' ⟨rfl, rfl⟩; exact ⟨rfl, Bl.refl _⟩),
      fun w' h => (bare_errno 4 4 w' h).mono (by rintro x w'' ⟨rfl, g⟩; exact ⟨rfl, g.bl⟩)⟩
/-- The text that bytes are, of both. -/
theorem unpack_ok (p : ByteArray) (hp : p.size ≤ 100000) : ∃ (e : Int) (ev : Value) (T : ByteArray),
    (∀ w, Calls Tryd.prog 14 #[.string p] w fun y w' => y = .returned (.tuple #[.string T, .int .i64 e]) ∧ Bl w w') ∧
    (∀ w, Calls Tryd.prog 15 #[.string p] w fun y w' => y = .returned (.tuple #[.string T, ev]) ∧ Bl w w') ∧
    (∀ w', Laid w' → Calls Tryd.prog 9 #[ev, .int .i64 e] w' fun y w'' => y = .returned (.bool true) ∧ Bl w' w'') := by
  by_cases h : ∃ t : ByteArray, t.size ≤ 4000 ∧ packT t = p
  · obtain ⟨t, ht, rfl⟩ := h
    refine ⟨0, .nilIface, t, fun w => (refUnpack_at _ w hp).mono ?_, fun w => (hi.Unpack_at _ w hp).mono ?_, fun w' _ => (bare_nil 0 w').mono (by rintro x w'' ⟨rfl, rfl⟩; exact ⟨rfl, Bl.refl _⟩)⟩
    · rintro y w' ⟨hb, ⟨t', h1, h2, rfl⟩ | ⟨hy, _⟩⟩
      · rw [hi.packT_inj h1 ht h2]; exact ⟨rfl, hb⟩
      · exact absurd hy (hi.why_not ht)
    · rintro y w' ⟨hb, ⟨t', h1, h2, rfl⟩ | ⟨hy, _⟩⟩
      · rw [hi.packT_inj h1 ht h2]; exact ⟨rfl, hb⟩
      · exact absurd hy (hi.why_not ht)
  · refine ⟨3, .iface 23 (.int .i64 3), ⟨#[]⟩, fun w => (refUnpack_at _ w hp).mono ?_, fun w => (hi.Unpack_at _ w hp).mono ?_, fun w' h => (bare_errno 3 3 w' h).mono (by rintro x w'' ⟨rfl, g⟩; exact ⟨rfl, g.bl⟩)⟩
    · rintro y w' ⟨hb, ⟨t', h1, h2, rfl⟩ | ⟨_, rfl⟩⟩
      · exact absurd ⟨t', h1, h2⟩ h
      · exact ⟨rfl, hb⟩
    · rintro y w' ⟨hb, ⟨t', h1, h2, rfl⟩ | ⟨_, rfl⟩⟩
      · exact absurd ⟨t', h1, h2⟩ h
      · exact ⟨rfl, hb⟩
set_option maxHeartbeats 4000000 in
set_option maxRecDepth 100000 in
/-- The law where something is asked. -/
theorem core (a0 a1 : ByteArray) (w : World) (hg : Laid w) (hs0 : a0.size ≤ 200 ∨ (4000 < a0.size ∧ a0.size ≤ 4009)) (hs1 : a1.size ≤ 500) :
    Calls Tryd.prog 4 #[.string a0, .string a1] w fun e w' => e = .returned (.bool true) ∧ Below w.heap.size w w' := by
  have hz3 : ¬ (4009 : Int) < (a0.size : Int) := by omega
  have hz4 : ¬ (500 : Int) < (a1.size : Int) := by omega
  have y3 : decide ((4009 : Int) < (a0.size : Int)) = false := decide_eq_false hz3
  have y4 : decide ((500 : Int) < (a1.size : Int)) = false := decide_eq_false hz4
  have y5 : (decide ((200 : Int) < (a0.size : Int)) && decide ((a0.size : Int) ≤ 4000)) = false := by
    rcases hs0 with h | h
    · rw [decide_eq_false (by omega : ¬ (200 : Int) < (a0.size : Int))]; rfl
    · rw [decide_eq_false (by omega : ¬ (a0.size : Int) ≤ 4000), Bool.and_false]
  obtain ⟨e0, ev0, T0, c1, c2, c3⟩ := pack_ok a0 (by omega)
  obtain ⟨e1, ev1, T1, d1, d2, d3⟩ := unpack_ok a1 (by omega)
  have hsz : a0.size ≤ 4009 := by omega
  have HG : Hid (Laid w) := hg
  clear hg
  go_enter Tryd.func4, Tryd.ntmps4
  rcases Nat.lt_or_ge 200 a0.size with hb | hb
  · have hb1 : (200 : Int) < (a0.size : Int) := by omega
    have hb2 : ¬ (a0.size : Int) ≤ 4000 := by omega
    have hb3 : decide ((a0.size : Int) ≤ 4000) = false := decide_eq_false hb2
    have hb4 : decide ((200 : Int) < (a0.size : Int)) = true := decide_eq_true hb1
    clear y5 hs0
    go_wp2_with (fail)
    refine (c1 _).mono ?_
    rintro y v1 ⟨rfl, g1⟩
    clear c1
    go_wp2_with (fail)
    refine (c2 _).mono ?_
    rintro y v2 ⟨rfl, g2⟩
    clear c2
    have G2 := g1.trans g2
    go_wp2_with (fail)
    refine (c3 _ (laid_bl HG.out G2)).mono ?_
    rintro y v3 ⟨rfl, g3⟩
    clear c3
    have G3 := G2.trans g3
    go_wp2_with (fail)
    refine (d1 _).mono ?_
    rintro y v4 ⟨rfl, g4⟩
    clear d1
    go_wp2_with (fail)
    refine (d2 _).mono ?_
    rintro y v5 ⟨rfl, g5⟩
    clear d2
    have G5 := (G3.trans g4).trans g5
    go_wp2_with (fail)
    refine (Count_at a0 v5 (by omega)).mono ?_
    rintro y v6 ⟨B, rfl, hB, hr, g6⟩
    have G6 := G5.trans g6
    go_wp2_with (fail)
    refine (d3 _ (laid_bl HG.out G6)).mono ?_
    rintro y v7 ⟨rfl, g7⟩
    clear d3
    have HR : Hid (RowI v7 B (cntL a0 a0.size) ∧ Bl w v7) := ⟨hr.step g7, G6.trans g7⟩
    clear g1 g2 g3 g4 g5 g6 g7 G2 G3 G5 G6 hr hB
    go_wp2
    go_loopw [12, 13, 14] (fun i _ _ wx => ∃ k : Nat, k ≤ 256 ∧ i = .int .i64 (k : Int) ∧ wx = v7) (fun i _ _ _ => 256 - (intOf i).toNat)
    case atStart => exact ⟨0, by omega, rfl, rfl⟩
    case round =>
      obtain ⟨k, hk, rfl, hwx⟩ := hrel
      have hwx := hwx.symm
      subst hwx
      by_cases hlt : k < 256
      · have hltz : (k : Int) < 256 := by omega
        have hc := HR.out.1.cell (j := k) (by rw [cntL_len]; exact hlt)
        rw [show (cntL a0 a0.size).getD k 0 = (ct a0 (k : Int) a0.size : Int) from cntN_get a0 256 a0.size k hlt] at hc
        go_wp2
        go_loopw [13, 14] (fun z j wy => ∃ (i m : Nat), i ≤ a0.size ∧ j = .int .i64 (i : Int) ∧ z = .int .i64 (m : Int) ∧ m ≤ i ∧ wy = v7 ∧ Hid (m = ct a0 (k : Int) i)) (fun _ j _ => a0.size - (intOf j).toNat)
        case atStart => exact ⟨0, 0, Nat.zero_le _, rfl, rfl, Nat.le_refl _, rfl, rfl⟩
        case round =>
          obtain ⟨i, m, hi, rfl, rfl, hmi, hwy, HM⟩ := hrel
          have hwy := hwy.symm
          subst hwy
          by_cases hlti : i < a0.size
          · have hltiz : (i : Int) < a0.size := by omega
            have hgi : (((a0[i]'hlti).toNat : Nat) : Int) = sb a0 i := (sb_get a0 i hlti).symm
            have hbi := sb_bd a0 i
            by_cases heq : sb a0 i = (k : Int)
            · have hbe : (sb a0 i == (k : Int)) = true := by rw [beq_iff_eq]; exact heq
              have HN : Hid (m + 1 = ct a0 (k : Int) (i + 1)) := by show _ = _; rw [ct, if_pos heq, HM.out]
              clear HM heq
              generalize sb a0 i = sbi at *
              go_wp2
              go_roundw
              case rel => exact ⟨i + 1, m + 1, hlti, by go_num, by go_num, by omega, by trivial, HN⟩
              case measure => simp [intOf]; omega
            · have hbe : (sb a0 i == (k : Int)) = false := by rw [beq_eq_false_iff_ne]; exact heq
              have HN : Hid (m = ct a0 (k : Int) (i + 1)) := by show _ = _; rw [ct, if_neg heq, HM.out]; rfl
              clear HM heq
              generalize sb a0 i = sbi at *
              go_wp2
              go_roundw
              case rel => exact ⟨i + 1, m, hlti, by go_num, rfl, by omega, by trivial, HN⟩
              case measure => simp [intOf]; omega
          · have hltiz : ¬ (i : Int) < a0.size := by omega
            obtain rfl : i = a0.size := by omega
            rw [← HM.out] at hc
            clear HM
            go_wp2
            go_roundw
            case rel => exact ⟨k + 1, hlt, by go_num, by trivial⟩
            case measure => simp [intOf]; omega
      · have hltz : ¬ (k : Int) < 256 := by omega
        go_wp2
        go_ret
        exact ⟨rfl, HR.out.2⟩
  · have hb1 : ¬ (200 : Int) < (a0.size : Int) := by omega
    have hb4 : decide ((200 : Int) < (a0.size : Int)) = false := decide_eq_false hb1
    clear y5 hs0
    go_wp2_with (fail)
    refine (c1 _).mono ?_
    rintro y v1 ⟨rfl, g1⟩
    clear c1
    go_wp2_with (fail)
    refine (c2 _).mono ?_
    rintro y v2 ⟨rfl, g2⟩
    clear c2
    have G2 := g1.trans g2
    go_wp2_with (fail)
    refine (c3 _ (laid_bl HG.out G2)).mono ?_
    rintro y v3 ⟨rfl, g3⟩
    clear c3
    have G3 := G2.trans g3
    go_wp2_with (fail)
    refine (d1 _).mono ?_
    rintro y v4 ⟨rfl, g4⟩
    clear d1
    go_wp2_with (fail)
    refine (d2 _).mono ?_
    rintro y v5 ⟨rfl, g5⟩
    clear d2
    have G5 := (G3.trans g4).trans g5
    go_wp2_with (fail)
    refine (Count_at a0 v5 (by omega)).mono ?_
    rintro y v6 ⟨B, rfl, hB, hr, g6⟩
    have G6 := G5.trans g6
    go_wp2_with (fail)
    refine (d3 _ (laid_bl HG.out G6)).mono ?_
    rintro y v7 ⟨rfl, g7⟩
    clear d3
    have HR : Hid (RowI v7 B (cntL a0 a0.size) ∧ Bl w v7) := ⟨hr.step g7, G6.trans g7⟩
    clear g1 g2 g3 g4 g5 g6 g7 G2 G3 G5 G6 hr hB
    go_wp2
    go_loopw [12, 13, 14] (fun i _ _ wx => ∃ k : Nat, k ≤ 256 ∧ i = .int .i64 (k : Int) ∧ wx = v7) (fun i _ _ _ => 256 - (intOf i).toNat)
    case atStart => exact ⟨0, by omega, rfl, rfl⟩
    case round =>
      obtain ⟨k, hk, rfl, hwx⟩ := hrel
      have hwx := hwx.symm
      subst hwx
      by_cases hlt : k < 256
      · have hltz : (k : Int) < 256 := by omega
        have hc := HR.out.1.cell (j := k) (by rw [cntL_len]; exact hlt)
        rw [show (cntL a0 a0.size).getD k 0 = (ct a0 (k : Int) a0.size : Int) from cntN_get a0 256 a0.size k hlt] at hc
        go_wp2
        go_loopw [13, 14] (fun z j wy => ∃ (i m : Nat), i ≤ a0.size ∧ j = .int .i64 (i : Int) ∧ z = .int .i64 (m : Int) ∧ m ≤ i ∧ wy = v7 ∧ Hid (m = ct a0 (k : Int) i)) (fun _ j _ => a0.size - (intOf j).toNat)
        case atStart => exact ⟨0, 0, Nat.zero_le _, rfl, rfl, Nat.le_refl _, rfl, rfl⟩
        case round =>
          obtain ⟨i, m, hi, rfl, rfl, hmi, hwy, HM⟩ := hrel
          have hwy := hwy.symm
          subst hwy
          by_cases hlti : i < a0.size
          · have hltiz : (i : Int) < a0.size := by omega
            have hgi : (((a0[i]'hlti).toNat : Nat) : Int) = sb a0 i := (sb_get a0 i hlti).symm
            have hbi := sb_bd a0 i
            by_cases heq : sb a0 i = (k : Int)
            · have hbe : (sb a0 i == (k : Int)) = true := by rw [beq_iff_eq]; exact heq
              have HN : Hid (m + 1 = ct a0 (k : Int) (i + 1)) := by show _ = _; rw [ct, if_pos heq, HM.out]
              clear HM heq
              generalize sb a0 i = sbi at *
              go_wp2
              go_roundw
              case rel => exact ⟨i + 1, m + 1, hlti, by go_num, by go_num, by omega, by trivial, HN⟩
              case measure => simp [intOf]; omega
            · have hbe : (sb a0 i == (k : Int)) = false := by rw [beq_eq_false_iff_ne]; exact heq
              have HN : Hid (m = ct a0 (k : Int) (i + 1)) := by show _ = _; rw [ct, if_neg heq, HM.out]; rfl
              clear HM heq
              generalize sb a0 i = sbi at *
              go_wp2
              go_roundw
              case rel => exact ⟨i + 1, m, hlti, by go_num, rfl, by omega, by trivial, HN⟩
              case measure => simp [intOf]; omega
          · have hltiz : ¬ (i : Int) < a0.size := by omega
            obtain rfl : i = a0.size := by omega
            rw [← HM.out] at hc
            clear HM
            go_wp2
            go_roundw
            case rel => exact ⟨k + 1, hlt, by go_num, by trivial⟩
            case measure => simp [intOf]; omega
      · have hltz : ¬ (k : Int) < 256 := by omega
        go_wp2
        go_ret
        exact ⟨rfl, HR.out.2⟩
set_option maxRecDepth 100000 in
theorem walk (a0 : ByteArray) (a1 : ByteArray) (w0 : a0.size ≤ 140737488351232) (w1 : a1.size ≤ 140737488351232) (w : World) (hg : errs.Laid w) :
    Calls Tryd.prog 4 #[.string a0, .string a1] w fun e w' => e = .returned (.bool true) ∧ Below w.heap.size w w' := by
  by_cases hb1 : 4009 < a0.size
  · have hz : (4009 : Int) < (a0.size : Int) := by omega
    have y1 : decide ((4009 : Int) < (a0.size : Int)) = true := decide_eq_true hz
    have y2 : ¬ (a0.size : Int) ≤ 4000 := by omega
    have y3 : decide ((a0.size : Int) ≤ 4000) = false := decide_eq_false y2
    have y4 : (200 : Int) < (a0.size : Int) := by omega
    have y5 : decide ((200 : Int) < (a0.size : Int)) = true := decide_eq_true y4
    go_enter Tryd.func4, Tryd.ntmps4
    go_wp2
    go_ret
    exact ⟨rfl, Bl.refl _⟩
  by_cases hb2 : 200 < a0.size ∧ a0.size ≤ 4000
  · have y2 : (a0.size : Int) ≤ 4000 := by omega
    have y3 : decide ((a0.size : Int) ≤ 4000) = true := decide_eq_true y2
    have y4 : (200 : Int) < (a0.size : Int) := by omega
    have y5 : decide ((200 : Int) < (a0.size : Int)) = true := decide_eq_true y4
    go_enter Tryd.func4, Tryd.ntmps4
    go_wp2
    go_ret
    exact ⟨rfl, Bl.refl _⟩
  by_cases hb3 : 500 < a1.size
  · have hz : (500 : Int) < (a1.size : Int) := by omega
    have y1 : decide ((500 : Int) < (a1.size : Int)) = true := decide_eq_true hz
    have z3 : ¬ (4009 : Int) < (a0.size : Int) := by omega
    have z4 : decide ((4009 : Int) < (a0.size : Int)) = false := decide_eq_false z3
    rcases Nat.lt_or_ge 200 a0.size with hb | hb
    · have y2 : ¬ (a0.size : Int) ≤ 4000 := by omega
      have y3 : decide ((a0.size : Int) ≤ 4000) = false := decide_eq_false y2
      have y4 : (200 : Int) < (a0.size : Int) := by omega
      have y5 : decide ((200 : Int) < (a0.size : Int)) = true := decide_eq_true y4
      go_enter Tryd.func4, Tryd.ntmps4
      go_wp2
      go_ret
      exact ⟨rfl, Bl.refl _⟩
    · have y4 : ¬ (200 : Int) < (a0.size : Int) := by omega
      have y5 : decide ((200 : Int) < (a0.size : Int)) = false := decide_eq_false y4
      go_enter Tryd.func4, Tryd.ntmps4
      go_wp2
      go_ret
      exact ⟨rfl, Bl.refl _⟩
  exact core a0 a1 w hg (by omega) (by omega)

set_option maxRecDepth 100000 in
theorem lifted (os : Os) (started : os.Started) (H : Type) (enc : TypeId × Value → H) :
    ReturnsInHanded {} Tryd.checked os 4 .any (fun w args => (Rows.huffPacksSpec.pre enc Tryd.prog Tryd.f4 [] false w args ∧ laidMetH Tryd.prog laying.list w) ∧ sizedMet enc Tryd.prog Tryd.f4 (OpenSpec.ofChange Rows.huffPacksSpec) false w args) (Rows.huffPacksSpec.post enc Tryd.prog Tryd.f4 false true false false) := by
  refine returnsInHanded_of_change_and (C := Tryd.checked) (X := fun w _ => laidMetH Tryd.prog laying.list w) (fun _ _ _ hh h => h.of_heap hh) own started (by kernel_rfl) Tryd.func4
    (ChangeSpec.witness_at (enc := enc) (C := Tryd.checked) (os := os) (X := fun w _ => laidMetH Tryd.prog laying.list w) false (laying.layCell (World.holding Tryd.prog os ⟨#[], #[], []⟩)) #[.string ByteArray.empty, .string ByteArray.empty] 8 rfl (by kernel_rfl) (by kernel_rfl) (by kernel_rfl) (by kernel_rfl) (by kernel_rfl) (laying.laidWorld_met os _)) ?_
  intro W base args ds gs before hval0 hW hcnd hsz0 hL _
  have hval : ∀ (j : Nat) t v, Tryd.f4.params[j]? = some t → args[j]? = some v → Value.okWide Tryd.prog W .any base t v := hval0
  have hW' := hW
  obtain ⟨p, q, hA0, hV, rfl, hfz, hnd⟩ := hW
  have hA : DataW.TrodAll enc Tryd.prog W 0 (fun _ => true) true Tryd.f4.params.toList args.toList ds p := hA0
  have hsz : (DataW.weightsEach Tryd.prog (Tryd.f4.params.toList ++ Rows.huffPacksSpec.plain.varTypes Tryd.prog) (ds ++ gs)).all (· ≤ reachBytes) = true := hsz0
  rw [Tryd.params4] at hA hval hsz
  obtain ⟨v0, vs0, d0, ds0, p0, q0, hargs, rfl, rfl, h0, r0⟩ := trodAll_cons hA
  obtain ⟨v1, vs1, d1, ds1, p1, q1, rfl, rfl, rfl, h1, r1⟩ := trodAll_cons r0
  obtain ⟨rfl, rfl, rfl⟩ := trodAll_nil r1
  obtain rfl : args = #[v0, v1] := by cases args; simp_all
  obtain ⟨rfl, rfl⟩ := trodVars_none hV
  obtain ⟨a0, rfl, rfl, rfl, w0⟩ := open_string Tryd.underlying9 (hval 0 9 v0 rfl rfl) h0
  have z0 : a0.size ≤ 140737488351232 := sized_string hsz (j := 0) (t := 9) rfl rfl
  obtain ⟨a1, rfl, rfl, rfl, w1⟩ := open_string Tryd.underlying9 (hval 1 9 v1 rfl rfl) h1
  have z1 : a1.size ≤ 140737488351232 := sized_string hsz (j := 1) (t := 9) rfl rfl
  clear hA0 hval0 hsz0 hsz
  simp only [List.append_nil] at hW'
  refine (walk a0 a1 z0 z1 W (laying.handle_of_laid hL)).mono fun e W' ⟨he, hg⟩ => ?_
  subst he
  exact ⟨_, rfl, _, _, _, [], [], [], hW', (trodAll_cons_mk (shut_bool Tryd.underlying4 _) trodAll_mk0), (trodAll_cons_mk (shut_string Tryd.underlying9 w0) (trodAll_cons_mk (shut_string Tryd.underlying9 w1) trodAll_mk0)), rfl, hg.frame _, fun h => by cases h⟩

theorem over : Rows.huffPacksRow.holds Tryd.pinned (OpenSpec.ofChange Rows.huffPacksSpec) :=
  OpenClaim.holds_of_wide 4 Tryd.f4 rfl rfl rfl rfl rfl rfl rfl ⟨rfl, rfl, rfl, rfl, rfl⟩ rfl rfl rfl rfl rfl (by kernel_rfl) Tryd.func4 (by kernel_rfl)
    (of_decide_eq_true (by kernel_rfl)) (by unfold Func.isWrapper; first | (rw [if_pos (by decide +kernel)]; kernel_rfl) | (rw [if_neg (by decide +kernel)]; exact ⟨rfl, rfl⟩))
    (fun os started H enc _ => lifted os started H enc)

theorem tied : Rows.HuffPacksCardSaid :=
  Claim7.holds_tied_plain_at .later [] [.handle] true (true, "9bd2a48bae9d6065ba0f24f285d32b47c8a701ca554457380862e08b2ba37686") true
    over (fun _ h => by cases h) (by kernel_rfl) (fun _ h => by cases h) huffPacks_row_tie rfl ⟨rfl, rfl⟩ (by kernel_rfl) rfl
    (fun f fn hf hfn => by
      obtain rfl : f = 4 := Option.some.inj ((show Tryd.prog.funcNamed "escritoire/escritoirelaw.HuffPacks" = some 4 by kernel_rfl).symm.trans hf) |>.symm
      obtain rfl : fn = Tryd.f4 := (Option.some.inj (Tryd.func4.symm.trans hfn)).symm
      exact ⟨by kernel_rfl, fun j t ht => by
        rw [Tryd.params4] at ht
        rcases j with _ | j
        · obtain rfl : t = 9 := by simpa using ht.symm
          exact (show Tryd.prog.wantsStandIn 9 = false by kernel_rfl)
        · rcases j with _ | j
          · obtain rfl : t = 9 := by simpa using ht.symm
            exact (show Tryd.prog.wantsStandIn 9 = false by kernel_rfl)
          · simp at ht⟩)
    (by kernel_rfl)
end Go.Proofs.YtkldnapbeebdkaaDoor.huffPacks
namespace Go.Proofs.YtkldnapbeebdkaaDoor
/-- The given statement. -/
theorem huffPacks_holds : Rows.HuffPacksCardSaid := huffPacks.tied
#print axioms huffPacks_holds
end Go.Proofs.YtkldnapbeebdkaaDoor
