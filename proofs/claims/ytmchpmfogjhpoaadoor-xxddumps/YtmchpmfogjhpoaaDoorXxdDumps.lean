/- Any text of up to 600 bytes as lines, by any cols and group, the error too, and plain, is the document's own answer: XxdDumps answers true at every text and every two numbers. errors.errorType is taken as the program's text lays it. -/
import Derived.Test.YtmchpmfogjhpoaaDoorRows
import Derived.WalkKit
import Derived.ProofKit
import Derived.OpenShut
import Derived.SizedLaws
import Derived.Test.YtmchpmfogjhpoaaDoorLaid
import Derived.Test.YtmchpmfogjhpoaaDoorTie
import Derived.Test.YtmchpmfogjhpoaaDoorCards
import Derived.SevenTiedAt
import Derived.Test.YtmchpmfogjhpoaaDoorXr3
import Derived.Test.YtmchpmfogjhpoaaDoorBare
import Derived.ShutString
namespace Go.Proofs.YtmchpmfogjhpoaaDoor.xxdDumps
open Go.ChangeShapes Go.WideShapes Go.ChangeAt Go.RowKit
open Go.ChangeMaps (open_string shut_string)
set_option linter.unusedVariables false      -- a walk need not use every 'w<i>' (that an integer argument fits its kind)

theorem own : ownKnob Tryd.prog.godebug = none := by kernel_rfl

open mem rows errs xd xr
theorem laid_bl {w w' : World} (h : Laid w) (g : Bl w w') : Laid w' := by
  have hp := h.pos
  unfold Laid at h ⊢
  unfold World.cell? at h ⊢
  rw [Below.block g _ hp]
  exact h
/-- Bytes as lines, of both. -/
theorem dump_ok (s : ByteArray) (c g : Int) (hs : s.size ≤ 600) : ∃ (e : Int) (ev : Value) (T : ByteArray),
    (∀ w, Calls Tryd.prog 11 #[.string s, .int .i64 c, .int .i64 g] w fun y w' => y = .returned (.tuple #[.string T, .int .i64 e]) ∧ Bl w w') ∧
    (∀ w, Calls Tryd.prog 12 #[.string s, .int .i64 c, .int .i64 g] w fun y w' => y = .returned (.tuple #[.string T, ev]) ∧ Bl w w') ∧
    (∀ w', Laid w' → Calls Tryd.prog 10 #[ev, .int .i64 e] w' fun y w'' => y = .returned (.bool true) ∧ Bl w' w'') := by
  by_cases h : (1 ≤ c ∧ c ≤ 256) ∧ (1 ≤ g ∧ g ≤ c)
  · obtain ⟨C, rfl⟩ : ∃ C : Nat, c = (C : Int) := ⟨c.toNat, by omega⟩
    obtain ⟨G, rfl⟩ : ∃ G : Nat, g = (G : Int) := ⟨g.toNat, by omega⟩
    exact ⟨0, .nilIface, _, fun w => (refDump_at s C G w hs (by omega) (by omega) (by omega)).mono (by rintro x w'' ⟨rfl, rfl⟩; exact ⟨rfl, Bl.refl _⟩), fun w => Dump_at s C G w hs (by omega) (by omega) (by omega), fun w' _ => (bare_nil 0 w').mono (by rintro x w'' ⟨rfl, rfl⟩; exact ⟨rfl, Bl.refl _⟩)⟩
  · exact ⟨2, .iface 22 (.int .i64 2), ⟨#[]⟩, fun w => (Dump_no s c g w h).mono (by rintro x w'' ⟨rfl, rfl⟩; exact ⟨rfl, Bl.refl _⟩), fun w => Dump_bad s c g w h,
      fun w' h => (bare_errno 2 2 w' h).mono (by rintro x w'' ⟨rfl, g⟩; exact ⟨rfl, g.bl⟩)⟩
set_option maxHeartbeats 4000000 in
set_option maxRecDepth 100000 in
theorem walk (a0 : ByteArray) (a1 : Int) (a2 : Int) (w0 : a0.size ≤ 140737488351232) (w1 : (Lit.int .i64 a1).wf = true) (w2 : (Lit.int .i64 a2).wf = true) (w : World) (hg : errs.Laid w) :
    Calls Tryd.prog 4 #[.string a0, .int .i64 a1, .int .i64 a2] w fun e w' => e = .returned (.bool true) ∧ Below w.heap.size w w' := by
  by_cases hs : a0.size ≤ 600
  · have hz : ¬ (600 : Int) < (a0.size : Int) := by omega
    have hzd : decide ((600 : Int) < (a0.size : Int)) = false := decide_eq_false hz
    obtain ⟨e0, ev0, T0, c1, c2, c3⟩ := dump_ok a0 a1 a2 hs
    have c4 := fun w => Plain_at a0 w hs
    have c5 := fun w => refPlain_at a0 w hs
    generalize strOfNums (pln (ptl a0 30 (np a0 30))) = T1 at c4 c5
    have HG : Hid (Laid w) := hg
    clear hg
    go_enter Tryd.func4, Tryd.ntmps4
    go_wp2_with (fail)
    refine (c1 _).mono ?_
    rintro y v1 ⟨rfl, g1⟩
    clear c1
    go_wp2_with (fail)
    refine (c2 _).mono ?_
    rintro y v2 ⟨rfl, g2⟩
    clear c2
    have G2 := g1.trans g2
    go_wp2_with (fail)
    refine (c3 _ (laid_bl HG.out G2)).mono ?_
    rintro y v3 ⟨rfl, g3⟩
    clear c3
    go_wp2_with (fail)
    refine (c4 _).mono ?_
    rintro y v4 ⟨rfl, g4⟩
    clear c4
    go_wp2_with (fail)
    refine (c5 _).mono ?_
    rintro y v5 ⟨rfl, rfl⟩
    clear c5
    have HF : Hid (Bl w v5) := (G2.trans g3).trans g4
    clear g1 g2 g3 g4 G2
    go_wp2
    go_ret
    exact ⟨rfl, HF.out⟩
  · have hz : (600 : Int) < (a0.size : Int) := by omega
    have hzd : decide ((600 : Int) < (a0.size : Int)) = true := decide_eq_true hz
    go_enter Tryd.func4, Tryd.ntmps4
    go_wp2
    go_ret
    exact ⟨rfl, Bl.refl _⟩

set_option maxRecDepth 100000 in
theorem lifted (os : Os) (started : os.Started) (H : Type) (enc : TypeId × Value → H) :
    ReturnsInHanded {} Tryd.checked os 4 .any (fun w args => (Rows.xxdDumpsSpec.pre enc Tryd.prog Tryd.f4 [] false w args ∧ laidMetH Tryd.prog laying.list w) ∧ sizedMet enc Tryd.prog Tryd.f4 (OpenSpec.ofChange Rows.xxdDumpsSpec) false w args) (Rows.xxdDumpsSpec.post enc Tryd.prog Tryd.f4 false true false false) := by
  refine returnsInHanded_of_change_and (C := Tryd.checked) (X := fun w _ => laidMetH Tryd.prog laying.list w) (fun _ _ _ hh h => h.of_heap hh) own started (by kernel_rfl) Tryd.func4
    (ChangeSpec.witness_at (enc := enc) (C := Tryd.checked) (os := os) (X := fun w _ => laidMetH Tryd.prog laying.list w) false (laying.layCell (World.holding Tryd.prog os ⟨#[], #[], []⟩)) #[.string ByteArray.empty, .int .i64 0, .int .i64 0] 8 rfl (by kernel_rfl) (by kernel_rfl) (by kernel_rfl) (by kernel_rfl) (by kernel_rfl) (laying.laidWorld_met os _)) ?_
  intro W base args ds gs before hval0 hW hcnd hsz0 hL _
  have hval : ∀ (j : Nat) t v, Tryd.f4.params[j]? = some t → args[j]? = some v → Value.okWide Tryd.prog W .any base t v := hval0
  have hW' := hW
  obtain ⟨p, q, hA0, hV, rfl, hfz, hnd⟩ := hW
  have hA : DataW.TrodAll enc Tryd.prog W 0 (fun _ => true) true Tryd.f4.params.toList args.toList ds p := hA0
  have hsz : (DataW.weightsEach Tryd.prog (Tryd.f4.params.toList ++ Rows.xxdDumpsSpec.plain.varTypes Tryd.prog) (ds ++ gs)).all (· ≤ reachBytes) = true := hsz0
  rw [Tryd.params4] at hA hval hsz
  obtain ⟨v0, vs0, d0, ds0, p0, q0, hargs, rfl, rfl, h0, r0⟩ := trodAll_cons hA
  obtain ⟨v1, vs1, d1, ds1, p1, q1, rfl, rfl, rfl, h1, r1⟩ := trodAll_cons r0
  obtain ⟨v2, vs2, d2, ds2, p2, q2, rfl, rfl, rfl, h2, r2⟩ := trodAll_cons r1
  obtain ⟨rfl, rfl, rfl⟩ := trodAll_nil r2
  obtain rfl : args = #[v0, v1, v2] := by cases args; simp_all
  obtain ⟨rfl, rfl⟩ := trodVars_none hV
  obtain ⟨a0, rfl, rfl, rfl, w0⟩ := open_string Tryd.underlying9 (hval 0 9 v0 rfl rfl) h0
  have z0 : a0.size ≤ 140737488351232 := sized_string hsz (j := 0) (t := 9) rfl rfl
  obtain ⟨a1, rfl, rfl, rfl, w1⟩ := open_int Tryd.underlying3 (hval 1 3 v1 rfl rfl) h1
  obtain ⟨a2, rfl, rfl, rfl, w2⟩ := open_int Tryd.underlying3 (hval 2 3 v2 rfl rfl) h2
  clear hA0 hval0 hsz0 hsz
  simp only [List.append_nil] at hW'
  refine (walk a0 a1 a2 z0 w1 w2 W (laying.handle_of_laid hL)).mono fun e W' ⟨he, hg⟩ => ?_
  subst he
  exact ⟨_, rfl, _, _, _, [], [], [], hW', (trodAll_cons_mk (shut_bool Tryd.underlying4 _) trodAll_mk0), (trodAll_cons_mk (shut_string Tryd.underlying9 w0) (trodAll_cons_mk (shut_int Tryd.underlying3 w1) (trodAll_cons_mk (shut_int Tryd.underlying3 w2) trodAll_mk0))), rfl, hg.frame _, fun h => by cases h⟩

theorem over : Rows.xxdDumpsRow.holds Tryd.pinned (OpenSpec.ofChange Rows.xxdDumpsSpec) :=
  OpenClaim.holds_of_wide 4 Tryd.f4 rfl rfl rfl rfl rfl rfl rfl ⟨rfl, rfl, rfl, rfl, rfl⟩ rfl rfl rfl rfl rfl (by kernel_rfl) Tryd.func4 (by kernel_rfl)
    (of_decide_eq_true (by kernel_rfl)) (by unfold Func.isWrapper; first | (rw [if_pos (by decide +kernel)]; kernel_rfl) | (rw [if_neg (by decide +kernel)]; exact ⟨rfl, rfl⟩))
    (fun os started H enc _ => lifted os started H enc)

theorem tied : Rows.XxdDumpsCardSaid :=
  Claim7.holds_tied_plain_at .later [] [.handle] true (true, "497456aaeeebad7fa92a67af2d31cbb35d6d7cf8cc6d49a52cebeddb06e19ca6") true
    over (fun _ h => by cases h) (by kernel_rfl) (fun _ h => by cases h) xxdDumps_row_tie rfl ⟨rfl, rfl⟩ (by kernel_rfl) rfl
    (fun f fn hf hfn => by
      obtain rfl : f = 4 := Option.some.inj ((show Tryd.prog.funcNamed "escritoire/escritoirelaw.XxdDumps" = some 4 by kernel_rfl).symm.trans hf) |>.symm
      obtain rfl : fn = Tryd.f4 := (Option.some.inj (Tryd.func4.symm.trans hfn)).symm
      exact ⟨by kernel_rfl, fun j t ht => by
        rw [Tryd.params4] at ht
        rcases j with _ | j
        · obtain rfl : t = 9 := by simpa using ht.symm
          exact (show Tryd.prog.wantsStandIn 9 = false by kernel_rfl)
        · rcases j with _ | j
          · obtain rfl : t = 3 := by simpa using ht.symm
            exact (show Tryd.prog.wantsStandIn 3 = false by kernel_rfl)
          · rcases j with _ | j
            · obtain rfl : t = 3 := by simpa using ht.symm
              exact (show Tryd.prog.wantsStandIn 3 = false by kernel_rfl)
            · simp at ht⟩)
    (by kernel_rfl)
end Go.Proofs.YtmchpmfogjhpoaaDoor.xxdDumps
namespace Go.Proofs.YtmchpmfogjhpoaaDoor
/-- The given statement. -/
theorem xxdDumps_holds : Rows.XxdDumpsCardSaid := xxdDumps.tied
#print axioms xxdDumps_holds
end Go.Proofs.YtmchpmfogjhpoaaDoor
