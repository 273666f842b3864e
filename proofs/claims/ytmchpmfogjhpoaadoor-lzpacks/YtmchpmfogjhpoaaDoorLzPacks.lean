/- How any text of up to 1500 bytes (or just above 4000) is told by what stood in it already, and what any pieces of up to 300 bytes tell, the error too, is the document's own answer: LzPacks answers true at every two texts. errors.errorType is taken as the program's text lays it. -/
import Derived.Test.YtmchpmfogjhpoaaDoorRows
import Derived.WalkKit
import Derived.ProofKit
import Derived.OpenShut
import Derived.SizedLaws
import Derived.Test.YtmchpmfogjhpoaaDoorLaid
import Derived.Test.YtmchpmfogjhpoaaDoorTie
import Derived.Test.YtmchpmfogjhpoaaDoorCards
import Derived.SevenTiedAt
import Derived.Test.YtmchpmfogjhpoaaDoorLr3
import Derived.Test.YtmchpmfogjhpoaaDoorLr4
import Derived.Test.YtmchpmfogjhpoaaDoorBare
import Derived.ShutString
namespace Go.Proofs.YtmchpmfogjhpoaaDoor.lzPacks
open Go.ChangeShapes Go.WideShapes Go.ChangeAt Go.RowKit
open Go.ChangeMaps (open_string shut_string)
set_option linter.unusedVariables false      -- a walk need not use every 'w<i>' (that an integer argument fits its kind)

theorem own : ownKnob Tryd.prog.godebug = none := by kernel_rfl

open mem rows errs lz lzr
theorem laid_bl {w w' : World} (h : Laid w) (g : Bl w w') : Laid w' := by
  have hp := h.pos
  unfold Laid at h ⊢
  unfold World.cell? at h ⊢
  rw [Below.block g _ hp]
  exact h
/-- A text told by what stood, of both. -/
theorem pack_ok (s : ByteArray) (h63 : s.size ≤ 9223372036854775807) : ∃ (e : Int) (ev : Value) (T : ByteArray),
    (∀ w, Calls Tryd.prog 6 #[.string s] w fun y w' => y = .returned (.tuple #[.string T, .int .i64 e]) ∧ Bl w w') ∧
    (∀ w, Calls Tryd.prog 7 #[.string s] w fun y w' => y = .returned (.tuple #[.string T, ev]) ∧ Bl w w') ∧
    (∀ w', Laid w' → Calls Tryd.prog 10 #[ev, .int .i64 e] w' fun y w'' => y = .returned (.bool true) ∧ Bl w' w'') := by
  by_cases h : s.size ≤ 4000
  · exact ⟨0, .nilIface, strOfNums (packL s), fun w => refPack_at s w h, fun w => Pack_at s w h, fun w' _ => (bare_nil 0 w').mono (by rintro x w'' ⟨rfl, rfl⟩; exact ⟨rfl, Bl.refl _⟩)⟩
  · exact ⟨4, .iface 22 (.int .i64 4), ⟨#[]⟩, fun w => refPack_big s w (by omega) h63, fun w => Pack_big s w (by omega) h63,
      fun w' h => (bare_errno 4 4 w' h).mono (by rintro x w'' ⟨rfl, g⟩; exact ⟨rfl, g.bl⟩)⟩
/-- What pieces tell, of both. -/
theorem unpack_ok (p : ByteArray) (hp : p.size ≤ 10000) : ∃ (e : Int) (ev : Value) (T : ByteArray),
    (∀ w, Calls Tryd.prog 8 #[.string p] w fun y w' => y = .returned (.tuple #[.string T, .int .i64 e]) ∧ Bl w w') ∧
    (∀ w, Calls Tryd.prog 9 #[.string p] w fun y w' => y = .returned (.tuple #[.string T, ev]) ∧ Bl w w') ∧
    (∀ w', Laid w' → Calls Tryd.prog 10 #[ev, .int .i64 e] w' fun y w'' => y = .returned (.bool true) ∧ Bl w' w'') := by
  have c1 := fun w => refUnpack_at p w hp
  have c2 := fun w => Unpack_at p w hp
  unfold unRef at c1
  unfold unAns at c2
  by_cases h : (un (bs p) []).2 = 0
  · rw [if_pos h] at c1 c2
    exact ⟨0, .nilIface, _, c1, c2, fun w' _ => (bare_nil 0 w').mono (by rintro x w'' ⟨rfl, rfl⟩; exact ⟨rfl, Bl.refl _⟩)⟩
  · rw [if_neg h] at c1 c2
    exact ⟨_, _, _, c1, c2, fun w' h => (bare_errno _ _ w' h).mono (by rintro x w'' ⟨rfl, g⟩; exact ⟨by rw [beq_self_eq_true], g.bl⟩)⟩
set_option maxHeartbeats 4000000 in
set_option maxRecDepth 100000 in
/-- The law where something is asked. -/
theorem core (a0 a1 : ByteArray) (w : World) (hg : Laid w) (hs0 : a0.size ≤ 1500 ∨ (4000 < a0.size ∧ a0.size ≤ 4009)) (hs1 : a1.size ≤ 300) :
    Calls Tryd.prog 3 #[.string a0, .string a1] w fun e w' => e = .returned (.bool true) ∧ Below w.heap.size w w' := by
  have hz3 : ¬ (4009 : Int) < (a0.size : Int) := by omega
  have hz4 : ¬ (300 : Int) < (a1.size : Int) := by omega
  have y3 : decide ((4009 : Int) < (a0.size : Int)) = false := decide_eq_false hz3
  have y4 : decide ((300 : Int) < (a1.size : Int)) = false := decide_eq_false hz4
  obtain ⟨e0, ev0, T0, c1, c2, c3⟩ := pack_ok a0 (by omega)
  obtain ⟨e1, ev1, T1, d1, d2, d3⟩ := unpack_ok a1 (by omega)
  have HG : Hid (Laid w) := hg
  clear hg
  have two : (¬ (1500 : Int) < (a0.size : Int) ∧ decide ((1500 : Int) < (a0.size : Int)) = false) ∨ ((1500 : Int) < (a0.size : Int) ∧ decide ((1500 : Int) < (a0.size : Int)) = true ∧ ¬ (a0.size : Int) ≤ 4000 ∧ decide ((a0.size : Int) ≤ 4000) = false) := by
    rcases hs0 with h | h
    · exact Or.inl ⟨by omega, decide_eq_false (by omega)⟩
    · exact Or.inr ⟨by omega, decide_eq_true (by omega), by omega, decide_eq_false (by omega)⟩
  clear hs0
  go_enter Tryd.func3, Tryd.ntmps3
  rcases two with ⟨h1, h2⟩ | ⟨h1, h2, h3, h4⟩
  all_goals
    go_wp2_with (fail)
    refine (c1 _).mono ?_
    rintro y v1 ⟨rfl, g1⟩
    clear c1
    go_wp2_with (fail)
    refine (c2 _).mono ?_
    rintro y v2 ⟨rfl, g2⟩
    clear c2
    have G2 := g1.trans g2
    go_wp2_with (fail)
    refine (d1 _).mono ?_
    rintro y v3 ⟨rfl, g3⟩
    clear d1
    go_wp2_with (fail)
    refine (d2 _).mono ?_
    rintro y v4 ⟨rfl, g4⟩
    clear d2
    have G4 := (G2.trans g3).trans g4
    go_wp2_with (fail)
    refine (c3 _ (laid_bl HG.out G4)).mono ?_
    rintro y v5 ⟨rfl, g5⟩
    clear c3
    have G5 := G4.trans g5
    go_wp2_with (fail)
    refine (d3 _ (laid_bl HG.out G5)).mono ?_
    rintro y v6 ⟨rfl, g6⟩
    clear d3
    have HF : Hid (Bl w v6) := G5.trans g6
    clear g1 g2 g3 g4 g5 g6 G2 G4 G5
    go_wp2
    go_ret
    exact ⟨rfl, HF.out⟩
set_option maxRecDepth 100000 in
theorem walk (a0 : ByteArray) (a1 : ByteArray) (w0 : a0.size ≤ 140737488351232) (w1 : a1.size ≤ 140737488351232) (w : World) (hg : errs.Laid w) :
    Calls Tryd.prog 3 #[.string a0, .string a1] w fun e w' => e = .returned (.bool true) ∧ Below w.heap.size w w' := by
  by_cases hb1 : 4009 < a0.size
  · have hz : (4009 : Int) < (a0.size : Int) := by omega
    have y1 : decide ((4009 : Int) < (a0.size : Int)) = true := decide_eq_true hz
    have y2 : ¬ (a0.size : Int) ≤ 4000 := by omega
    have y3 : decide ((a0.size : Int) ≤ 4000) = false := decide_eq_false y2
    have y4 : (1500 : Int) < (a0.size : Int) := by omega
    have y5 : decide ((1500 : Int) < (a0.size : Int)) = true := decide_eq_true y4
    go_enter Tryd.func3, Tryd.ntmps3
    go_wp2
    go_ret
    exact ⟨rfl, Bl.refl _⟩
  by_cases hb2 : 1500 < a0.size ∧ a0.size ≤ 4000
  · have y2 : (a0.size : Int) ≤ 4000 := by omega
    have y3 : decide ((a0.size : Int) ≤ 4000) = true := decide_eq_true y2
    have y4 : (1500 : Int) < (a0.size : Int) := by omega
    have y5 : decide ((1500 : Int) < (a0.size : Int)) = true := decide_eq_true y4
    go_enter Tryd.func3, Tryd.ntmps3
    go_wp2
    go_ret
    exact ⟨rfl, Bl.refl _⟩
  by_cases hb3 : 300 < a1.size
  · have hz : (300 : Int) < (a1.size : Int) := by omega
    have y1 : decide ((300 : Int) < (a1.size : Int)) = true := decide_eq_true hz
    have z3 : ¬ (4009 : Int) < (a0.size : Int) := by omega
    have z4 : decide ((4009 : Int) < (a0.size : Int)) = false := decide_eq_false z3
    rcases Nat.lt_or_ge 1500 a0.size with hb | hb
    · have y2 : ¬ (a0.size : Int) ≤ 4000 := by omega
      have y3 : decide ((a0.size : Int) ≤ 4000) = false := decide_eq_false y2
      have y4 : (1500 : Int) < (a0.size : Int) := by omega
      have y5 : decide ((1500 : Int) < (a0.size : Int)) = true := decide_eq_true y4
      go_enter Tryd.func3, Tryd.ntmps3
      go_wp2
      go_ret
      exact ⟨rfl, Bl.refl _⟩
    · have y4 : ¬ (1500 : Int) < (a0.size : Int) := by omega
      have y5 : decide ((1500 : Int) < (a0.size : Int)) = false := decide_eq_false y4
      go_enter Tryd.func3, Tryd.ntmps3
      go_wp2
      go_ret
      exact ⟨rfl, Bl.refl _⟩
  exact core a0 a1 w hg (by omega) (by omega)

set_option maxRecDepth 100000 in
theorem lifted (os : Os) (started : os.Started) (H : Type) (enc : TypeId × Value → H) :
    ReturnsInHanded {} Tryd.checked os 3 .any (fun w args => (Rows.lzPacksSpec.pre enc Tryd.prog Tryd.f3 [] false w args ∧ laidMetH Tryd.prog laying.list w) ∧ sizedMet enc Tryd.prog Tryd.f3 (OpenSpec.ofChange Rows.lzPacksSpec) false w args) (Rows.lzPacksSpec.post enc Tryd.prog Tryd.f3 false true false false) := by
  refine returnsInHanded_of_change_and (C := Tryd.checked) (X := fun w _ => laidMetH Tryd.prog laying.list w) (fun _ _ _ hh h => h.of_heap hh) own started (by kernel_rfl) Tryd.func3
    (ChangeSpec.witness_at (enc := enc) (C := Tryd.checked) (os := os) (X := fun w _ => laidMetH Tryd.prog laying.list w) false (laying.layCell (World.holding Tryd.prog os ⟨#[], #[], []⟩)) #[.string ByteArray.empty, .string ByteArray.empty] 8 rfl (by kernel_rfl) (by kernel_rfl) (by kernel_rfl) (by kernel_rfl) (by kernel_rfl) (laying.laidWorld_met os _)) ?_
  intro W base args ds gs before hval0 hW hcnd hsz0 hL _
  have hval : ∀ (j : Nat) t v, Tryd.f3.params[j]? = some t → args[j]? = some v → Value.okWide Tryd.prog W .any base t v := hval0
  have hW' := hW
  obtain ⟨p, q, hA0, hV, rfl, hfz, hnd⟩ := hW
  have hA : DataW.TrodAll enc Tryd.prog W 0 (fun _ => true) true Tryd.f3.params.toList args.toList ds p := hA0
  have hsz : (DataW.weightsEach Tryd.prog (Tryd.f3.params.toList ++ Rows.lzPacksSpec.plain.varTypes Tryd.prog) (ds ++ gs)).all (· ≤ reachBytes) = true := hsz0
  rw [Tryd.params3] at hA hval hsz
  obtain ⟨v0, vs0, d0, ds0, p0, q0, hargs, rfl, rfl, h0, r0⟩ := trodAll_cons hA
  obtain ⟨v1, vs1, d1, ds1, p1, q1, rfl, rfl, rfl, h1, r1⟩ := trodAll_cons r0
  obtain ⟨rfl, rfl, rfl⟩ := trodAll_nil r1
  obtain rfl : args = #[v0, v1] := by cases args; simp_all
  obtain ⟨rfl, rfl⟩ := trodVars_none hV
  obtain ⟨a0, rfl, rfl, rfl, w0⟩ := open_string Tryd.underlying9 (hval 0 9 v0 rfl rfl) h0
  have z0 : a0.size ≤ 140737488351232 := sized_string hsz (j := 0) (t := 9) rfl rfl
  obtain ⟨a1, rfl, rfl, rfl, w1⟩ := open_string Tryd.underlying9 (hval 1 9 v1 rfl rfl) h1
  have z1 : a1.size ≤ 140737488351232 := sized_string hsz (j := 1) (t := 9) rfl rfl
  clear hA0 hval0 hsz0 hsz
  simp only [List.append_nil] at hW'
  refine (walk a0 a1 z0 z1 W (laying.handle_of_laid hL)).mono fun e W' ⟨he, hg⟩ => ?_
  subst he
  exact ⟨_, rfl, _, _, _, [], [], [], hW', (trodAll_cons_mk (shut_bool Tryd.underlying4 _) trodAll_mk0), (trodAll_cons_mk (shut_string Tryd.underlying9 w0) (trodAll_cons_mk (shut_string Tryd.underlying9 w1) trodAll_mk0)), rfl, hg.frame _, fun h => by cases h⟩

theorem over : Rows.lzPacksRow.holds Tryd.pinned (OpenSpec.ofChange Rows.lzPacksSpec) :=
  OpenClaim.holds_of_wide 3 Tryd.f3 rfl rfl rfl rfl rfl rfl rfl ⟨rfl, rfl, rfl, rfl, rfl⟩ rfl rfl rfl rfl rfl (by kernel_rfl) Tryd.func3 (by kernel_rfl)
    (of_decide_eq_true (by kernel_rfl)) (by unfold Func.isWrapper; first | (rw [if_pos (by decide +kernel)]; kernel_rfl) | (rw [if_neg (by decide +kernel)]; exact ⟨rfl, rfl⟩))
    (fun os started H enc _ => lifted os started H enc)

theorem tied : Rows.LzPacksCardSaid :=
  Claim7.holds_tied_plain_at .later [] [.handle] true (true, "497456aaeeebad7fa92a67af2d31cbb35d6d7cf8cc6d49a52cebeddb06e19ca6") true
    over (fun _ h => by cases h) (by kernel_rfl) (fun _ h => by cases h) lzPacks_row_tie rfl ⟨rfl, rfl⟩ (by kernel_rfl) rfl
    (fun f fn hf hfn => by
      obtain rfl : f = 3 := Option.some.inj ((show Tryd.prog.funcNamed "escritoire/escritoirelaw.LzPacks" = some 3 by kernel_rfl).symm.trans hf) |>.symm
      obtain rfl : fn = Tryd.f3 := (Option.some.inj (Tryd.func3.symm.trans hfn)).symm
      exact ⟨by kernel_rfl, fun j t ht => by
        rw [Tryd.params3] at ht
        rcases j with _ | j
        · obtain rfl : t = 9 := by simpa using ht.symm
          exact (show Tryd.prog.wantsStandIn 9 = false by kernel_rfl)
        · rcases j with _ | j
          · obtain rfl : t = 9 := by simpa using ht.symm
            exact (show Tryd.prog.wantsStandIn 9 = false by kernel_rfl)
          · simp at ht⟩)
    (by kernel_rfl)
end Go.Proofs.YtmchpmfogjhpoaaDoor.lzPacks
namespace Go.Proofs.YtmchpmfogjhpoaaDoor
/-- The given statement. -/
theorem lzPacks_holds : Rows.LzPacksCardSaid := lzPacks.tied
#print axioms lzPacks_holds
end Go.Proofs.YtmchpmfogjhpoaaDoor
