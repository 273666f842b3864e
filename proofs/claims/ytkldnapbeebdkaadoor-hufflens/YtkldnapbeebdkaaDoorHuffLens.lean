/- How many bits things have (Lens), their signs (Signs) and what they cost (Cost) are the document's own, errors too, at every two lists of numbers: HuffLens answers true (lists of more than 260 numbers are not asked for by the statement). errors.errorType is taken as the program's text lays it. -/
import Derived.Test.YtkldnapbeebdkaaDoorRows
import Derived.WalkKit
import Derived.ProofKit
import Derived.OpenShut
import Derived.SizedLaws
import Derived.Test.YtkldnapbeebdkaaDoorLaid
import Derived.Test.YtkldnapbeebdkaaDoorTie
import Derived.Test.YtkldnapbeebdkaaDoorCards
import Derived.SevenTiedAt
import Derived.Test.YtkldnapbeebdkaaDoorHr4
import Derived.Test.YtkldnapbeebdkaaDoorHfL
import Derived.Test.YtkldnapbeebdkaaDoorSame
import Derived.Test.YtkldnapbeebdkaaDoorHg5
import Derived.Test.YtkldnapbeebdkaaDoorHg2
import Derived.ShutString
import Derived.ChangeOld
import Derived.Below
namespace Go.Proofs.YtkldnapbeebdkaaDoor.huffLens
open Go.ChangeShapes Go.WideShapes Go.ChangeAt Go.RowKit
open Go.ChangeMaps (open_string shut_string)
set_option linter.unusedVariables false

theorem own : ownKnob Tryd.prog.godebug = none := by kernel_rfl
theorem laidOut : laidOutB Tryd.prog = true := by kernel_rfl

/-- WHAT THE WALK IS TOLD OF A SLICE OF INTEGERS THAT CAME IN: it is nil; or it leads to a row of 'cap' cells, the numbers 'zs' (the first 'len' are its elements, the rest its spare room), each fitting its kind. -/
def IsRow (k : IntKind) (w : World) (a : Option Addr) (len cap : Nat) (zs : List Int) : Prop :=
  (a = none ∧ len = 0 ∧ cap = 0 ∧ zs = []) ∨
  ∃ x, a = some x ∧ len ≤ cap ∧ cap ≤ maxLen ∧ zs.length = cap ∧ (∀ i, i < zs.length → w.cell? (x.add i) = some (.int k (zs.getD i 0))) ∧ ∀ n ∈ zs, (Lit.int k n).wf = true

open mem rows errs hg
theorem laid_bl {w w' : World} (h : Laid w) (g : Bl w w') : Laid w' := by
  have hp := h.pos
  unfold Laid at h ⊢
  unfold World.cell? at h ⊢
  rw [Below.block g _ hp]
  exact h
theorem open_row {w : World} {a : Option Addr} {len cap : Nat} {zs : List Int} (h : IsRow .i64 w a len cap zs) : ∃ l : List Int, len = l.length ∧ In w a l ∧ len ≤ 9223372036854775807 := by
  rcases h with ⟨rfl, rfl, rfl, rfl⟩ | ⟨x, rfl, h1, h2, h3, h4, _⟩
  · exact ⟨[], rfl, Or.inl rfl, by omega⟩
  · refine ⟨zs.take len, by rw [List.length_take]; omega, Or.inr ⟨x, rfl, fun k hk => ?_⟩, by unfold maxLen at h2; omega⟩
    rw [List.length_take] at hk
    rw [h4 k (by omega)]
    simp only [List.getD_eq_getElem?_getD]
    rw [List.getElem?_take_of_lt (by omega)]
/-- How many bits, of both. -/
theorem lens_ok (p : Option Addr) (n c : Nat) (l : List Int) (w : World) (hin : In w p l) (hn : n = l.length) (hn2 : n ≤ 260) : ∃ (e : Int) (ev : Value) (L : List Int), L.length ≤ 5000 ∧
    (Calls Tryd.prog 5 #[.slice p n c] w fun y w' => ∃ v, y = .returned (.tuple #[v, .int .i64 e]) ∧ Own w' w.heap.size v L ∧ Bl w w') ∧
    (∀ w', Bl w w' → Calls Tryd.prog 6 #[.slice p n c] w' fun y w'' => ∃ v, y = .returned (.tuple #[v, ev]) ∧ Own w'' w'.heap.size v L ∧ Bl w' w'') ∧
    (∀ w', Laid w' → Calls Tryd.prog 9 #[ev, .int .i64 e] w' fun y w'' => y = .returned (.bool true) ∧ Bl w' w'') := by
  have r := hr.refLens_at p n c l w hin hn (by omega)
  have q := fun w' (hb : Bl w w') => hf.Lens_at p n c l w' (hin.step hb) hn (by omega)
  by_cases h1 : 256 < l.length
  · refine ⟨4, .iface 23 (.int .i64 4), [], by decide, r.mono ?_, fun w' hb => (q w' hb).mono ?_, fun w' h => (bare_errno 4 4 w' h).mono (by rintro x w'' ⟨rfl, g⟩; exact ⟨rfl, g.bl⟩)⟩
    · rintro y w' ⟨hb, ⟨_, rfl⟩ | ⟨h, _⟩ | ⟨h, _⟩⟩
      · exact ⟨_, rfl, Own.nil _ _, hb⟩
      · omega
      · omega
    · rintro y w'' ⟨hb, ⟨_, rfl⟩ | ⟨h, _⟩ | ⟨h, _⟩⟩
      · exact ⟨_, rfl, Own.nil _ _, hb⟩
      · omega
      · omega
  · by_cases h2 : hf.okL l l.length
    · have hl := (hf.lens_facts h2 (by omega)).1
      refine ⟨0, .nilIface, hf.lensOf l, by omega, r.mono ?_, fun w' hb => (q w' hb).mono ?_, fun w' h => (bare_nil 0 w').mono (by rintro x w'' ⟨rfl, rfl⟩; exact ⟨rfl, Bl.refl _⟩)⟩
      · rintro y w' ⟨hb, ⟨h, _⟩ | ⟨_, h, _⟩ | ⟨_, _, B, rfl, hB, hr⟩⟩
        · omega
        · exact absurd h2 h
        · exact ⟨_, rfl, by have := hr.own hB (by omega); rwa [hl] at this, hb⟩
      · rintro y w'' ⟨hb, ⟨h, _⟩ | ⟨_, h, _⟩ | ⟨_, _, B, rfl, hB, hr⟩⟩
        · omega
        · exact absurd h2 h
        · exact ⟨_, rfl, by have := hr.own hB (by omega); rwa [hl] at this, hb⟩
    · refine ⟨1, .iface 23 (.int .i64 1), [], by decide, r.mono ?_, fun w' hb => (q w' hb).mono ?_, fun w' h => (bare_errno 1 1 w' h).mono (by rintro x w'' ⟨rfl, g⟩; exact ⟨rfl, g.bl⟩)⟩
      · rintro y w' ⟨hb, ⟨h, _⟩ | ⟨_, _, rfl⟩ | ⟨_, h, _⟩⟩
        · omega
        · exact ⟨_, rfl, Own.nil _ _, hb⟩
        · exact absurd h h2
      · rintro y w'' ⟨hb, ⟨h, _⟩ | ⟨_, _, rfl⟩ | ⟨_, h, _⟩⟩
        · omega
        · exact ⟨_, rfl, Own.nil _ _, hb⟩
        · exact absurd h h2
/-- The signs, of both. -/
theorem signs_ok (p : Option Addr) (n c : Nat) (l : List Int) (w : World) (hin : In w p l) (hn : n = l.length) (hn2 : n ≤ 260) : ∃ (e : Int) (ev : Value) (L : List Int), L.length ≤ 5000 ∧
    (Calls Tryd.prog 7 #[.slice p n c] w fun y w' => ∃ v, y = .returned (.tuple #[v, .int .i64 e]) ∧ Own w' w.heap.size v L ∧ Bl w w') ∧
    (∀ w', Bl w w' → Calls Tryd.prog 8 #[.slice p n c] w' fun y w'' => ∃ v, y = .returned (.tuple #[v, ev]) ∧ Own w'' w'.heap.size v L ∧ Bl w' w'') ∧
    (∀ w', Laid w' → Calls Tryd.prog 9 #[ev, .int .i64 e] w' fun y w'' => y = .returned (.bool true) ∧ Bl w' w'') := by
  have r := su.refSigns_at p n c l w hin hn (by omega)
  have q := fun w' (hb : Bl w w') => hg.Signs_at p n c l w' (hin.step hb) hn (by omega)
  by_cases h1 : 256 < l.length
  · refine ⟨4, .iface 23 (.int .i64 4), [], by decide, r.mono ?_, fun w' hb => (q w' hb).mono ?_, fun w' h => (bare_errno 4 4 w' h).mono (by rintro x w'' ⟨rfl, g⟩; exact ⟨rfl, g.bl⟩)⟩
    · rintro y w' ⟨hb, ⟨_, rfl⟩ | ⟨h, _⟩ | ⟨h, _⟩ | ⟨h, _⟩⟩
      · exact ⟨_, rfl, Own.nil _ _, hb⟩
      all_goals omega
    · rintro y w'' ⟨hb, ⟨_, rfl⟩ | ⟨h, _⟩ | ⟨h, _⟩ | ⟨h, _⟩⟩
      · exact ⟨_, rfl, Own.nil _ _, hb⟩
      all_goals omega
  · by_cases h2 : okS l l.length
    · by_cases h3 : tk l l.length ≤ 16777216
      · have hl : (signsOf l).length = l.length := by unfold signsOf; simp
        refine ⟨0, .nilIface, signsOf l, by omega, r.mono ?_, fun w' hb => (q w' hb).mono ?_, fun w' h => (bare_nil 0 w').mono (by rintro x w'' ⟨rfl, rfl⟩; exact ⟨rfl, Bl.refl _⟩)⟩
        · rintro y w' ⟨hb, ⟨h, _⟩ | ⟨_, h, _⟩ | ⟨_, _, h, _⟩ | ⟨_, _, _, B, rfl, hB, hr⟩⟩
          · omega
          · exact absurd h2 h
          · omega
          · exact ⟨_, rfl, by have := hr.own hB (by omega); rwa [hl] at this, hb⟩
        · rintro y w'' ⟨hb, ⟨h, _⟩ | ⟨_, h, _⟩ | ⟨_, _, h, _⟩ | ⟨_, _, _, B, rfl, hB, hr⟩⟩
          · omega
          · exact absurd h2 h
          · omega
          · exact ⟨_, rfl, by have := hr.own hB (by omega); rwa [hl] at this, hb⟩
      · refine ⟨12, .iface 23 (.int .i64 12), [], by decide, r.mono ?_, fun w' hb => (q w' hb).mono ?_, fun w' h => (bare_errno 12 12 w' h).mono (by rintro x w'' ⟨rfl, g⟩; exact ⟨rfl, g.bl⟩)⟩
        · rintro y w' ⟨hb, ⟨h, _⟩ | ⟨_, h, _⟩ | ⟨_, _, _, rfl⟩ | ⟨_, _, h, _⟩⟩
          · omega
          · exact absurd h2 h
          · exact ⟨_, rfl, Own.nil _ _, hb⟩
          · omega
        · rintro y w'' ⟨hb, ⟨h, _⟩ | ⟨_, h, _⟩ | ⟨_, _, _, rfl⟩ | ⟨_, _, h, _⟩⟩
          · omega
          · exact absurd h2 h
          · exact ⟨_, rfl, Own.nil _ _, hb⟩
          · omega
    · refine ⟨2, .iface 23 (.int .i64 2), [], by decide, r.mono ?_, fun w' hb => (q w' hb).mono ?_, fun w' h => (bare_errno 2 2 w' h).mono (by rintro x w'' ⟨rfl, g⟩; exact ⟨rfl, g.bl⟩)⟩
      · rintro y w' ⟨hb, ⟨h, _⟩ | ⟨_, _, rfl⟩ | ⟨_, h, _⟩ | ⟨_, h, _⟩⟩
        · omega
        · exact ⟨_, rfl, Own.nil _ _, hb⟩
        · exact absurd h h2
        · exact absurd h h2
      · rintro y w'' ⟨hb, ⟨h, _⟩ | ⟨_, _, rfl⟩ | ⟨_, h, _⟩ | ⟨_, h, _⟩⟩
        · omega
        · exact ⟨_, rfl, Own.nil _ _, hb⟩
        · exact absurd h h2
        · exact absurd h h2
set_option maxHeartbeats 4000000 in
set_option maxRecDepth 100000 in
theorem walk (a0 : Option Addr) (len0 cap0 : Nat) (z0 : List Int) (a1 : Option Addr) (len1 cap1 : Nat) (z1 : List Int) (w : World) (w0 : IsRow .i64 w a0 len0 cap0 z0) (w1 : IsRow .i64 w a1 len1 cap1 z1) (hg : errs.Laid w) :
    Calls Tryd.prog 3 #[.slice a0 len0 cap0, .slice a1 len1 cap1] w fun e w' => e = .returned (.bool true) ∧ Below w.heap.size w w' := by
  obtain ⟨l0, hl0, hin0, h630⟩ := open_row w0
  obtain ⟨l1, hl1, hin1, h631⟩ := open_row w1
  have HG : Hid (Laid w) := hg
  have HL : Hid (len0 = l0.length ∧ len1 = l1.length ∧ In w a0 l0 ∧ In w a1 l1) := ⟨hl0, hl1, hin0, hin1⟩
  clear w0 w1 hg hl0 hl1 hin0 hin1
  by_cases hb0 : 260 < len0
  · have hz0 : (260 : Int) < len0 := by omega
    have hd0 : decide ((260 : Int) < len0) = true := decide_eq_true hz0
    go_enter Tryd.func3, Tryd.ntmps3
    go_wp2
    go_ret
    exact ⟨rfl, Bl.refl _⟩
  have hz0 : ¬ (260 : Int) < len0 := by omega
  have hd0 : decide ((260 : Int) < len0) = false := decide_eq_false hz0
  by_cases hb1 : 260 < len1
  · have hz1 : (260 : Int) < len1 := by omega
    have hd1 : decide ((260 : Int) < len1) = true := decide_eq_true hz1
    go_enter Tryd.func3, Tryd.ntmps3
    go_wp2
    go_ret
    exact ⟨rfl, Bl.refl _⟩
  have hz1 : ¬ (260 : Int) < len1 := by omega
  have hd1 : decide ((260 : Int) < len1) = false := decide_eq_false hz1
  obtain ⟨e0, ev0, L0, hL0, c1, c2, c3⟩ := lens_ok a0 len0 cap0 l0 w HL.out.2.2.1 HL.out.1 (by omega)
  go_enter Tryd.func3, Tryd.ntmps3
  go_wp2_with (fail)
  refine c1.mono ?_
  rintro y v1 ⟨ra, rfl, o1, g1⟩
  clear c1
  go_wp2_with (fail)
  refine (c2 _ g1).mono ?_
  rintro y v2 ⟨rb, rfl, o2, g2⟩
  clear c2
  have G2 := g1.trans g2
  obtain ⟨e1, ev1, L1, hL1, d1, d2, d3⟩ := signs_ok a1 len1 cap1 l1 v2 (HL.out.2.2.2.step G2) HL.out.2.1 (by omega)
  go_wp2_with (fail)
  refine d1.mono ?_
  rintro y v3 ⟨rc, rfl, o3, g3⟩
  clear d1
  go_wp2_with (fail)
  refine (d2 _ g3).mono ?_
  rintro y v4 ⟨rd, rfl, o4, g4⟩
  clear d2
  have G4 := (G2.trans g3).trans g4
  go_wp2_with (fail)
  refine (c3 _ (laid_bl HG.out G4)).mono ?_
  rintro y v5 ⟨rfl, g5⟩
  clear c3
  go_wp2_with (fail)
  refine (same_at _ _ L0 _ _ _ (((o2.step g3).step g4).step g5) ((((o1.step g2).step g3).step g4).step g5) hL0).mono ?_
  rintro y v6 ⟨rfl, g6⟩
  have G6 := (G4.trans g5).trans g6
  go_wp2_with (fail)
  refine (d3 _ (laid_bl HG.out G6)).mono ?_
  rintro y v7 ⟨rfl, g7⟩
  clear d3
  go_wp2_with (fail)
  refine (same_at _ _ L1 _ _ _ (((o4.step g5).step g6).step g7) ((((o3.step g4).step g5).step g6).step g7) hL1).mono ?_
  rintro y v8 ⟨rfl, g8⟩
  have G8 : Hid (Bl w v8) := (G6.trans g7).trans g8
  clear o1 o2 o3 o4 g1 g2 g3 g4 g5 g6 g7 g8 G2 G4 G6 hL0 hL1
  have HI : Hid (In v8 a0 l0 ∧ In v8 a1 l1) := ⟨HL.out.2.2.1.step G8.out, HL.out.2.2.2.step G8.out⟩
  go_wp2
  by_cases heq : len0 = len1
  · have heb : ((len0 : Int) == (len1 : Int)) = true := by rw [beq_iff_eq]; omega
    have hel : l0.length = l1.length := by have := HL.out; omega
    go_loopw [13, 14] (fun s i wr => ∃ (k : Nat) (z : Int), k ≤ len0 ∧ i = .int .i64 (k : Int) ∧ s = .int .i64 z ∧ Hid (z = cw l0 l1 k ∧ Dr v8 wr)) (fun _ i _ => len0 - (intOf i).toNat)
    case atStart => exact ⟨0, 0, Nat.zero_le _, rfl, rfl, ⟨rfl, Dr.refl _⟩⟩
    case round =>
      obtain ⟨k, z, hk, rfl, rfl, H⟩ := hrel
      obtain ⟨hz, q, rfl⟩ := H.out
      by_cases hlt : k < len0
      · have hltz : (k : Int) < len0 := by omega
        have hltd : decide ((k : Int) < len0) = true := decide_eq_true hltz
        have hlt1 : (k : Int) < len1 := by omega
        obtain ⟨x0, rfl, hc0⟩ := HI.out.1.at k (by rw [← HL.out.1]; exact hlt)
        obtain ⟨x1, rfl, hc1⟩ := HI.out.2.at k (by rw [← HL.out.2.1]; omega)
        have hc0' : (v8.drewN q).cell? (x0.add k) = some (.int .i64 (l0.getD k 0)) := hc0
        have hc1' : (v8.drewN q).cell? (x1.add k) = some (.int .i64 (l1.getD k 0)) := hc1
        have HS : Hid (wrap64 (z + wrap64 (l0.getD k 0 * l1.getD k 0)) = cw l0 l1 (k + 1)) := by
          show _ = wrap64 (cw l0 l1 k + wrap64 (l0.getD k 0 * l1.getD k 0))
          rw [hz]
        have HD : Hid (Dr v8 (v8.drewN q)) := ⟨q, rfl⟩
        have i1 : 0 ≤ (k : Int) ∧ (k : Int) < (len0 : Int) := by omega
        have i2 : 0 ≤ (k : Int) ∧ (k : Int) < (len1 : Int) := by omega
        generalize l0.getD k 0 = p0 at *
        generalize l1.getD k 0 = p1 at *
        clear hz H hc0 hc1
        generalize v8.drewN q = wq at *
        go_wp2
        go_quiet (fail)
        go_wp2
        go_roundw
        case rel => exact ⟨k + 1, _, hlt, by go_num, rfl, ⟨HS.out, Dr.drewN _ HD.out⟩⟩
        case measure => simp [intOf]; omega
      · have hltz : ¬ (k : Int) < len0 := by omega
        have hltd : decide ((k : Int) < len0) = false := decide_eq_false hltz
        have hk2 : k = len0 := by omega
        have cC := Cost_at a0 a1 len0 cap0 cap1 l0 l1 (v8.drewN q) (HI.out.1.step (Dr.bl ⟨q, rfl⟩)) (HI.out.2.step (Dr.bl ⟨q, rfl⟩)) HL.out.1 (by have := HL.out; omega) (by omega)
        rw [hk2] at hz
        rw [← hz] at cC
        have HBL : Hid (Bl w (v8.drewN q)) := G8.out.drewN q
        clear hz H hk2
        generalize v8.drewN q = wq at *
        have hne : ((len0 : Int) != (len1 : Int)) = false := by rw [heq]; simp
        have cC2 : Calls Tryd.prog 11 #[.slice a0 len0 cap0, .slice a1 len1 cap1] wq fun e w' => e = .returned (.tuple #[.int .i64 z, .nilIface]) ∧ w' = wq := by rw [← heq]; exact cC
        clear cC heq
        go_wp2_with (fail)
        refine cC2.mono ?_
        rintro y v9 ⟨rfl, rfl⟩
        clear cC2
        go_wp2
        go_ret
        exact ⟨rfl, HBL.out⟩
  · have heb : ((len0 : Int) == (len1 : Int)) = false := by rw [beq_eq_false_iff_ne]; omega
    have hne : ((len0 : Int) != (len1 : Int)) = true := by rw [bne_iff_ne]; omega
    have cC := Cost_no a0 a1 len0 len1 cap0 cap1 v8 heq
    have cB := bare_errno 1 1 v8 (laid_bl HG.out G8.out)
    by_cases hp : 0 < len0
    · have hpz : (0 : Int) < len0 := by omega
      have hpd : decide ((0 : Int) < len0) = true := decide_eq_true hpz
      refine wp_loop_rounds 1 ?_
      rw [rounds_succ]
      go_wp2_with (fail)
      refine cC.mono ?_
      rintro y v9 ⟨rfl, rfl⟩
      clear cC
      go_wp2_with (fail)
      refine cB.mono ?_
      rintro y v10 ⟨rfl, gb⟩
      clear cB
      go_wp2
      go_ret
      exact ⟨rfl, G8.out.trans gb.bl⟩
    · obtain rfl : len0 = 0 := by omega
      refine wp_loop_rounds 1 ?_
      rw [rounds_succ]
      go_wp2_with (fail)
      refine cC.mono ?_
      rintro y v9 ⟨rfl, rfl⟩
      clear cC
      go_wp2_with (fail)
      refine cB.mono ?_
      rintro y v10 ⟨rfl, gb⟩
      clear cB
      go_wp2
      go_ret
      exact ⟨rfl, G8.out.trans gb.bl⟩

set_option maxRecDepth 100000 in
theorem lifted (os : Os) (started : os.Started) (H : Type) (enc : TypeId × Value → H) :
    ReturnsInHanded {} Tryd.checked os 3 .any (fun w args => (Rows.huffLensSpec.pre enc Tryd.prog Tryd.f3 [] false w args ∧ laidMetH Tryd.prog laying.list w) ∧ sizedMet enc Tryd.prog Tryd.f3 (OpenSpec.ofChange Rows.huffLensSpec) false w args) (Rows.huffLensSpec.post enc Tryd.prog Tryd.f3 false true false false) := by
  refine returnsInHanded_of_change_and (C := Tryd.checked) (X := fun w _ => laidMetH Tryd.prog laying.list w) (fun _ _ _ hh h => h.of_heap hh) own started (by kernel_rfl) Tryd.func3
    (ChangeSpec.witness_at (enc := enc) (C := Tryd.checked) (os := os) (X := fun w _ => laidMetH Tryd.prog laying.list w) false (laying.layCell (World.holding Tryd.prog os ⟨#[], #[], []⟩)) #[.slice none 0 0, .slice none 0 0] 8 rfl (by kernel_rfl) (by kernel_rfl) (by kernel_rfl) (by kernel_rfl) (by kernel_rfl) (laying.laidWorld_met os _)) ?_
  intro W base args ds gs before hval0 hW hcnd hsz0 hL _
  have hval : ∀ (j : Nat) t v, Tryd.f3.params[j]? = some t → args[j]? = some v → Value.okWide Tryd.prog W .any base t v := hval0
  have hW' := hW
  obtain ⟨p, q, hA0, hV, rfl, hfz, hnd⟩ := hW
  have hA : DataW.TrodAll enc Tryd.prog W 0 (fun _ => true) true Tryd.f3.params.toList args.toList ds p := hA0
  have hsz : (DataW.weightsEach Tryd.prog (Tryd.f3.params.toList ++ Rows.huffLensSpec.plain.varTypes Tryd.prog) (ds ++ gs)).all (· ≤ reachBytes) = true := hsz0
  rw [Tryd.params3] at hA hval hsz
  obtain ⟨v0, vs0, d0, ds0, p0, q0, hargs, rfl, rfl, h0, r0⟩ := trodAll_cons hA
  obtain ⟨v1, vs1, d1, ds1, p1, q1, rfl, rfl, rfl, h1, r1⟩ := trodAll_cons r0
  obtain ⟨rfl, rfl, rfl⟩ := trodAll_nil r1
  obtain rfl : args = #[v0, v1] := by cases args; simp_all
  obtain ⟨rfl, rfl⟩ := trodVars_none hV
  obtain ⟨a0, len0, cap0, rfl⟩ := okWide_slice Tryd.underlying22 (hval 0 22 v0 rfl rfl)
  have k0 := h0
  have lt0 : ∀ x ∈ p0, x.block < W.heap.size := by obtain ⟨m, hm⟩ := k0; exact DataW.trod_lt m _ _ _ hm
  obtain ⟨z0, w0⟩ : ∃ zs, IsRow .i64 W a0 len0 cap0 zs := by
    obtain ⟨fuel, hf⟩ := h0
    rcases open_ints Tryd.underlying22 Tryd.underlying3 (by kernel_rfl) hf with ⟨hcs, _⟩ | ⟨x, l, c, zs, hcs, _, hl, hm, hz, _, hcell, hwz⟩
    · simp [Value.cells] at hcs
      obtain ⟨rfl, rfl, rfl⟩ := hcs
      exact ⟨[], .inl ⟨rfl, rfl, rfl, rfl⟩⟩
    · simp [Value.cells] at hcs
      obtain ⟨rfl, rfl, rfl⟩ := hcs
      exact ⟨zs, .inr ⟨_, rfl, hl, hm, by simpa using hz, hcell, hwz⟩⟩
  obtain ⟨a1, len1, cap1, rfl⟩ := okWide_slice Tryd.underlying22 (hval 1 22 v1 rfl rfl)
  have k1 := h1
  have lt1 : ∀ x ∈ p1, x.block < W.heap.size := by obtain ⟨m, hm⟩ := k1; exact DataW.trod_lt m _ _ _ hm
  obtain ⟨z1, w1⟩ : ∃ zs, IsRow .i64 W a1 len1 cap1 zs := by
    obtain ⟨fuel, hf⟩ := h1
    rcases open_ints Tryd.underlying22 Tryd.underlying3 (by kernel_rfl) hf with ⟨hcs, _⟩ | ⟨x, l, c, zs, hcs, _, hl, hm, hz, _, hcell, hwz⟩
    · simp [Value.cells] at hcs
      obtain ⟨rfl, rfl, rfl⟩ := hcs
      exact ⟨[], .inl ⟨rfl, rfl, rfl, rfl⟩⟩
    · simp [Value.cells] at hcs
      obtain ⟨rfl, rfl, rfl⟩ := hcs
      exact ⟨zs, .inr ⟨_, rfl, hl, hm, by simpa using hz, hcell, hwz⟩⟩
  clear hA0 hval0 hsz0 hsz
  refine (walk a0 len0 cap0 z0 a1 len1 cap1 z1 W w0 w1 (laying.handle_of_laid hL)).mono fun e W' ⟨he, bel⟩ => ?_
  subst he
  exact ⟨_, rfl, _, _, _, [], _, [], hW', trodAll_mk1 (shut_bool Tryd.underlying4 _), (trodAll_cons_mk (Below.trod laidOut (by kernel_rfl) (of_decide_eq_true (by kernel_rfl)) k0 bel lt0) (trodAll_cons_mk (Below.trod laidOut (by kernel_rfl) (of_decide_eq_true (by kernel_rfl)) k1 bel lt1) trodAll_mk0)), rfl, bel.frame _, fun h => by cases h⟩

theorem over : Rows.huffLensRow.holds Tryd.pinned (OpenSpec.ofChange Rows.huffLensSpec) :=
  OpenClaim.holds_of_wide 3 Tryd.f3 rfl rfl rfl rfl rfl rfl rfl ⟨rfl, rfl, rfl, rfl, rfl⟩ rfl rfl rfl rfl rfl (by kernel_rfl) Tryd.func3 (by kernel_rfl)
    (of_decide_eq_true (by kernel_rfl)) (by unfold Func.isWrapper; first | (rw [if_pos (by decide +kernel)]; kernel_rfl) | (rw [if_neg (by decide +kernel)]; exact ⟨rfl, rfl⟩))
    (fun os started H enc _ => lifted os started H enc)

theorem tied : Rows.HuffLensCardSaid :=
  Claim7.holds_tied_plain_at .later [] [.handle] true (true, "9bd2a48bae9d6065ba0f24f285d32b47c8a701ca554457380862e08b2ba37686") true
    over (fun _ h => by cases h) (by kernel_rfl) (fun _ h => by cases h) huffLens_row_tie rfl ⟨rfl, rfl⟩ (by kernel_rfl) rfl
    (fun f fn hf hfn => by
      obtain rfl : f = 3 := Option.some.inj ((show Tryd.prog.funcNamed "escritoire/escritoirelaw.HuffLens" = some 3 by kernel_rfl).symm.trans hf) |>.symm
      obtain rfl : fn = Tryd.f3 := (Option.some.inj (Tryd.func3.symm.trans hfn)).symm
      exact ⟨by kernel_rfl, fun j t ht => by
        rw [Tryd.params3] at ht
        rcases j with _ | j
        · obtain rfl : t = 22 := by simpa using ht.symm
          exact (show Tryd.prog.wantsStandIn 22 = false by kernel_rfl)
        · rcases j with _ | j
          · obtain rfl : t = 22 := by simpa using ht.symm
            exact (show Tryd.prog.wantsStandIn 22 = false by kernel_rfl)
          · simp at ht⟩)
    (by kernel_rfl)
end Go.Proofs.YtkldnapbeebdkaaDoor.huffLens
namespace Go.Proofs.YtkldnapbeebdkaaDoor
/-- The given statement. -/
theorem huffLens_holds : Rows.HuffLensCardSaid := huffLens.tied
#print axioms huffLens_holds
end Go.Proofs.YtkldnapbeebdkaaDoor
